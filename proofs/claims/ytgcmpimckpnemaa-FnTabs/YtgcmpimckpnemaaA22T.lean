/-
  Joined: Any4, Set4.
-/
import Derived.Test.YtgcmpimckpnemaaDraw6T
import Derived.Test.YtgcmpimckpnemaaAny3T
namespace Go.Proofs.Ytgcmpimckpnemaa
section
open Go.RowKit
theorem LB.kp {W W' : World} {B : Nat} {D : InoD} {v1 v2 v3 : Value} {ts : List TypeId} (h : LB W B D v1 v2 v3) (k : KpT W W' ts) (h5 : 5 ∈ ts) (hE : 67 ∈ ts) (hA : 70 ∈ ts) : LB W' B D v1 v2 v3 := ⟨row_kp h.d k h5, h.byt, row_kp h.e k hE, row_kp h.t k hA⟩
theorem LB.low {W : World} {B : Nat} {D : InoD} {v1 v2 v3 : Value} (h : LB W B D v1 v2 v3) : LB W 0 D v1 v2 v3 := ⟨row_lower h.d (Nat.zero_le _), h.byt, row_lower h.e (Nat.zero_le _), row_lower h.t (Nat.zero_le _)⟩
theorem LB.g {W : World} {D : InoD} {v1 v2 v3 : Value} (h : LB W 0 D v1 v2 v3) : InoG W 0 W.heap.size D v1 v2 v3 := ⟨h.d, h.byt, h.e, h.t, fun g hg => by
  rcases hg with hg | hg | hg
  · exact World.ownsRow.lt h.d g hg
  · exact World.ownsRow.lt h.e g hg
  · exact World.ownsRow.lt h.t g hg⟩
def InoR.lb (W : World) (r : InoR) : Prop := LB W 0 r.D (.slice r.a1 r.D.data.length r.c1) (.slice r.a2 r.D.ents.length r.c2) (.slice r.a3 r.D.attrs.length r.c3)
/-- A table's row, with the lists of its inodes. -/
structure FQ (W : World) (g N c : Nat) (qs : List InoR) : Prop where
  len : qs.length = N
  n : N ≤ 40
  row : W.ownsRow 0 30 6 (.slice (some ⟨g, 0, none⟩) N c) N (iv qs)
  els : ∀ r ∈ qs, r.lb W ∧ InoSmall r.D ∧ 0 ≤ r.D.ino ∧ r.D.ino ≤ 1001
theorem FQ.kp {W W' : World} {g N c : Nat} {qs : List InoR} (h : FQ W g N c qs) (k : KpT W W' [30, 5, 67, 70]) : FQ W' g N c qs :=
  ⟨h.len, h.n, row_kp h.row k (by decide), fun r hr => ⟨LB.kp (h.els r hr).1 k (by decide) (by decide) (by decide), (h.els r hr).2⟩⟩
theorem FQ.tr {W : World} {g N c : Nat} {qs : List InoR} (h : FQ W g N c qs) {n : Nat} (hn : n ≤ N) : TR W (some ⟨g, 0, none⟩) n (qs.take n) := by
  have hl := h.len
  have hN := h.n
  refine ⟨by rw [List.length_take]; omega, by omega, fun r hr => (h.els r (List.mem_of_mem_take hr)).2.1, ?_⟩
  have h1 := OwnI.rds (w := W) (g := g) (n := N) (cap := c) (rs := qs) h.row (fun r hr => InoG.rds (h.els r hr).1.g)
  rcases h1 with h1 | ⟨b, off, e, h2⟩
  · subst h1
    exact .inl (by simp)
  · exact .inr ⟨b, off, e, fun i r hi => h2 i r (by
      have h3 := (List.getElem?_eq_some_iff.1 hi).1
      rw [List.length_take] at h3
      rw [List.getElem?_take_of_lt (by omega)] at hi
      exact hi)⟩
theorem FQ.cap {W : World} {g N c : Nat} {qs : List InoR} (h : FQ W g N c qs) : N ≤ c := by
  rcases h.row.2 with ⟨h1, _⟩ | ⟨g', c', cur, h1, _, _, h2, _⟩
  · simp at h1
  · simp at h1
    obtain ⟨rfl, rfl⟩ := h1
    exact h2
theorem TQ.fq {B : Nat} {W : World} {a : Option Addr} {n c : Nat} {ds : List InoD} (h : TQ B W a n c ds) : ∃ g qs, a = some ⟨g, 0, none⟩ ∧ B ≤ g ∧ 1 ≤ n ∧ n ≤ 33 ∧ FQ W g n c qs := by
  obtain ⟨js, hn, hq⟩ := h.ex
  have h1 : (js.map InoJ.r).map InoR.D = ds := by rw [hq.ds, lift_map]
  have h2 : js.length = ds.length := by rw [← h1]; simp
  have h3 := h.good.len
  rcases hq.cases hn with ⟨_, rfl, _, _⟩ | ⟨g, rfl, hB, ho⟩
  · obtain ⟨D, hD, _⟩ := h.good.root
    rw [← h1] at hD
    simp at hD
  · refine ⟨g, js.map InoJ.r, rfl, hB, ?_, by omega, ⟨by simpa using hn, by omega, ho, fun r hr => ?_⟩⟩
    · obtain ⟨D, hD, _⟩ := h.good.root
      have := List.length_pos_of_mem hD
      omega
    · obtain ⟨j, hj, rfl⟩ := List.mem_map.1 hr
      obtain ⟨i, hi⟩ := List.getElem?_of_mem hj
      have hG := hq.G i j hi
      exact ⟨⟨hG.data, hG.byt, hG.ents, hG.attrs⟩, h.good.small _ (by rw [← h1]; exact List.mem_map_of_mem hr), by have := h.good.num j.r.D (by rw [← h1]; exact List.mem_map_of_mem hr); omega⟩
theorem cur_blk {W : World} {gc sn scap : Nat} {sa : Option Addr} {zs : List Int} (h : Src W gc sn scap sa zs) : ∃ vs, Blk W gc 83 vs := by
  obtain ⟨i, x, _, hb⟩ := h.cur
  exact ⟨_, hb⟩
/-- What is known while a table is bent. -/
structure LE (w W : World) (gc sn scap : Nat) (sa : Option Addr) (zs : List Int) (T : Nat) (v0 v1 : Value) (g N c : Nat) (qs : List InoR) : Prop where
  src : Src W gc sn scap sa zs
  gr : w.grownBy W (some gc)
  zT : Blk W T 26 #[v0, v1]
  zR : Blk W w.heap.size 26 #[.slice none 0 0, .int .i64 0]
  fq : FQ W g N c qs
  lt : gc < w.heap.size
  ltT : w.heap.size < T
  hg : w.heap.size < g
section
variable {w W W' : World} {gc sn scap : Nat} {sa : Option Addr} {zs : List Int} {T : Nat} {v0 v1 : Value} {g N c : Nat} {qs : List InoR}
theorem LE.step (h : LE w W gc sn scap sa zs T v0 v1 g N c qs) (hs : Src W' gc sn scap sa zs) (k : W.grownBy W' (some gc)) : LE w W' gc sn scap sa zs T v0 v1 g N c qs := by
  obtain ⟨vs, hb⟩ := cur_blk h.src
  exact ⟨hs, h.gr.trans k, h.zT.kept k (by have := h.lt; have := h.ltT; omega), h.zR.kept k (by have := h.lt; omega), h.fq.kp (KpT.grown k hb (by decide)), h.lt, h.ltT, h.hg⟩
theorem LE.keep (h : LE w W gc sn scap sa zs T v0 v1 g N c qs) (b : Below W.heap.size W W') : LE w W' gc sn scap sa zs T v0 v1 g N c qs := h.step (h.src.keep b) (gr_of_below b _)
theorem LE.al (h : LE w W gc sn scap sa zs T v0 v1 g N c qs) (o : Obj) : LE w (W.alloc o) gc sn scap sa zs T v0 v1 g N c qs := h.keep ((Below.refl _ W).alloc (Nat.le_refl _) o)
theorem LE.dr (h : LE w W gc sn scap sa zs T v0 v1 g N c qs) : LE w W.drew gc sn scap sa zs T v0 v1 g N c qs := h.keep (Below.refl _ W).drew
theorem LE.set0 (h : LE w W gc sn scap sa zs T v0 v1 g N c qs) (u : Value) : LE w (W.setCell ⟨T, 0, none⟩ u) gc sn scap sa zs T u v1 g N c qs :=
  ⟨h.src.other (gr_setC _ _ _ _) (by have := h.lt; have := h.ltT; omega), gr_mono h.gr (.inr (Nat.le_of_lt h.ltT)) (gr_setC _ _ _ _), h.zT.set 0 u, h.zR.other (B' := T) (by have := h.ltT; omega) _ _, h.fq.kp (KpT.grown (gr_setC _ _ _ _) h.zT (by decide)), h.lt, h.ltT, h.hg⟩
theorem LE.set1 (h : LE w W gc sn scap sa zs T v0 v1 g N c qs) (u : Value) : LE w (W.setCell ⟨T, 1, none⟩ u) gc sn scap sa zs T v0 u g N c qs :=
  ⟨h.src.other (gr_setC _ _ _ _) (by have := h.lt; have := h.ltT; omega), gr_mono h.gr (.inr (Nat.le_of_lt h.ltT)) (gr_setC _ _ _ _), h.zT.set 1 u, h.zR.other (B' := T) (by have := h.ltT; omega) _ _, h.fq.kp (KpT.grown (gr_setC _ _ _ _) h.zT (by decide)), h.lt, h.ltT, h.hg⟩
/-- What a drawn table is. -/
def A4 (w : World) (gc sn scap : Nat) (sa : Option Addr) (zs : List Int) (e : Ending) (w' : World) : Prop :=
  ∃ (g N n c : Nat) (nx : Int) (qs : List InoR), e = .returned (.agg #[.slice (some ⟨g, 0, none⟩) n c, .int .i64 nx]) ∧ n ≤ N ∧ w.heap.size ≤ g ∧ FQ w' g N c qs ∧ Src w' gc sn scap sa zs ∧ w.grownBy w' (some gc)
theorem LE.fin {n : Nat} {nx : Int} (h : LE w W gc sn scap sa zs T v0 v1 g N c qs) (hn : n ≤ N) : A4 w gc sn scap sa zs (.returned (.agg #[.slice (some ⟨g, 0, none⟩) n c, .int .i64 nx])) ((W.setCell ⟨w.heap.size, 0, none⟩ (.slice (some ⟨g, 0, none⟩) n c)).setCell ⟨w.heap.size, 1, none⟩ (.int .i64 nx)) := by
  have k0 : KpT W (W.setCell ⟨w.heap.size, 0, none⟩ (.slice (some ⟨g, 0, none⟩) n c)) [30, 5, 67, 70] := KpT.grown (gr_setC _ _ _ _) h.zR (by decide)
  have z1 := h.zR.set 0 (.slice (some ⟨g, 0, none⟩) n c)
  refine ⟨g, N, n, c, nx, qs, rfl, hn, Nat.le_of_lt h.hg, (h.fq.kp k0).kp (KpT.grown (gr_setC _ _ _ _) z1 (by decide)), (h.src.other (gr_setC _ _ _ _) h.lt).other (gr_setC _ _ _ _) h.lt, ?_⟩
  exact gr_mono (gr_mono h.gr (.inr (Nat.le_refl _)) (gr_setC _ _ _ _)) (.inr (Nat.le_refl _)) (gr_setC _ _ _ _)
/-- The p-th set. -/
theorem LE.put (h : LE w W gc sn scap sa zs T v0 v1 g N c qs) (r : InoR) (hr : r.lb W) (hsm : InoSmall r.D ∧ 0 ≤ r.D.ino ∧ r.D.ino ≤ 1001) (p : Nat) (hp : p < N) : LE w ((((((W.setCell ⟨g, p * 6, none⟩ (.int .i64 r.D.ino)).setCell ⟨g, p * 6 + 1, none⟩ (.int .i64 r.D.kind)).setCell ⟨g, p * 6 + 2, none⟩ (.int .i64 r.D.links)).setCell ⟨g, p * 6 + 3, none⟩ (.slice r.a1 r.D.data.length r.c1)).setCell ⟨g, p * 6 + 4, none⟩ (.slice r.a2 r.D.ents.length r.c2)).setCell ⟨g, p * 6 + 5, none⟩ (.slice r.a3 r.D.attrs.length r.c3)) gc sn scap sa zs T v0 v1 g N c (qs.set p r) := by
  have hr' := row_stored6 h.fq.row p hp r
  have hgr : W.grownBy ((((((W.setCell ⟨g, p * 6, none⟩ (.int .i64 r.D.ino)).setCell ⟨g, p * 6 + 1, none⟩ (.int .i64 r.D.kind)).setCell ⟨g, p * 6 + 2, none⟩ (.int .i64 r.D.links)).setCell ⟨g, p * 6 + 3, none⟩ (.slice r.a1 r.D.data.length r.c1)).setCell ⟨g, p * 6 + 4, none⟩ (.slice r.a2 r.D.ents.length r.c2)).setCell ⟨g, p * 6 + 5, none⟩ (.slice r.a3 r.D.attrs.length r.c3)) (some g) := gr_more (gr_more (gr_more (gr_more (gr_more (gr_setC W g (p * 6) _) (p * 6 + 1) _) (p * 6 + 2) _) (p * 6 + 3) _) (p * 6 + 4) _) (p * 6 + 5) _
  generalize (((((W.setCell ⟨g, p * 6, none⟩ (.int .i64 r.D.ino)).setCell ⟨g, p * 6 + 1, none⟩ (.int .i64 r.D.kind)).setCell ⟨g, p * 6 + 2, none⟩ (.int .i64 r.D.links)).setCell ⟨g, p * 6 + 3, none⟩ (.slice r.a1 r.D.data.length r.c1)).setCell ⟨g, p * 6 + 4, none⟩ (.slice r.a2 r.D.ents.length r.c2)).setCell ⟨g, p * 6 + 5, none⟩ (.slice r.a3 r.D.attrs.length r.c3) = V at hr' hgr ⊢
  have kk : KpT W V [26, 5, 67, 70] := KpT.row (v := .slice (some ⟨g, 0, none⟩) N c) hgr h.fq.row (by decide)
  have h1 := h.lt
  have h2 := h.hg
  refine ⟨h.src.other hgr (by omega), gr_mono h.gr (.inr (by omega)) hgr, h.zT.kp kk (by decide), h.zR.kp kk (by decide), ⟨by rw [List.length_set]; exact h.fq.len, h.fq.n, hr', fun q hq => ?_⟩, h.lt, h.ltT, h.hg⟩
  rcases List.mem_or_eq_of_mem_set hq with hq | rfl
  · exact ⟨LB.kp (h.fq.els q hq).1 kk (by decide) (by decide) (by decide), (h.fq.els q hq).2⟩
  · exact ⟨LB.kp hr kk (by decide) (by decide) (by decide), hsm⟩
/-- One appended. -/
theorem LE.app (h : LE w W gc sn scap sa zs T v0 v1 g N c qs) (r : InoR) (hr : r.lb W) (hsm : InoSmall r.D ∧ 0 ≤ r.D.ino ∧ r.D.ino ≤ 1001) (hN : N ≤ 39) (hk : W.grownBy W' (some g)) (g' c' : Nat) (ho : W'.ownsRow 0 30 6 (.slice (some ⟨g', 0, none⟩) (N + 1) c') (N + 1) (iv qs ++ r.six)) (hat : g' = g ∨ g' = W.heap.size) : LE w W' gc sn scap sa zs T v0 v1 g' (N + 1) c' (qs ++ [r]) := by
  have kk : KpT W W' [26, 5, 67, 70] := KpT.row (v := .slice (some ⟨g, 0, none⟩) N c) hk h.fq.row (by decide)
  have h1 := h.lt
  have h2 := h.hg
  have h3 := h.zR.lt
  refine ⟨h.src.other hk (by omega), gr_mono h.gr (.inr (by omega)) hk, h.zT.kp kk (by decide), h.zR.kp kk (by decide), ⟨by rw [List.length_append, h.fq.len]; rfl, by omega, by rw [iv_append]; simpa [iv] using ho, fun q hq => ?_⟩, h.lt, h.ltT, by omega⟩
  rcases List.mem_append.1 hq with hq | hq
  · exact ⟨LB.kp (h.fq.els q hq).1 kk (by decide) (by decide) (by decide), (h.fq.els q hq).2⟩
  · rw [List.mem_singleton.1 hq]
    exact ⟨LB.kp hr kk (by decide) (by decide) (by decide), hsm⟩
end
theorem DrA.sm {D : InoD} (h : DrA D) : InoSmall D ∧ 0 ≤ D.ino ∧ D.ino ≤ 1001 := ⟨⟨by have := h.data; omega, by have := h.nE; omega, by have := h.nA; omega, fun q hq => by have := (h.ents q hq).1; omega, fun q hq => by have := h.attrs q hq; omega⟩, h.num⟩
theorem LE.new {w W1 : World} {gc sn scap : Nat} {sa : Option Addr} {zs : List Int} {a : Option Addr} {n c : Nat} {nx : Int} {ds : List InoD} (h : Src w gc sn scap sa zs) (ht : TQ (w.heap.size + 1) W1 a n c ds) (hs : Src W1 gc sn scap sa zs) (hg : (w.alloc (.cells #[.slice none 0 0, .int .i64 0] 26)).grownBy W1 (some gc)) :
    ∃ g qs, a = some ⟨g, 0, none⟩ ∧ 1 ≤ n ∧ n ≤ 33 ∧ LE w (W1.alloc (.cells #[.slice a n c, .int .i64 nx] 26)) gc sn scap sa zs W1.heap.size (.slice a n c) (.int .i64 nx) g n c qs := by
  have hgc := h.cur.lt
  obtain ⟨g, qs, rfl, hB, h1, h2, fq⟩ := ht.fq
  have hsz := hg.size
  simp only [World.size_alloc] at hsz
  have bB : Below W1.heap.size W1 (W1.alloc (.cells #[.slice (some ⟨g, 0, none⟩) n c, .int .i64 nx] 26)) := (Below.refl _ W1).alloc (Nat.le_refl _) _
  have zR := (Blk.new w 26 #[.slice none 0 0, .int .i64 0]).kept hg (by omega)
  refine ⟨g, qs, rfl, h1, h2, hs.keep bB, ?_, Blk.new W1 _ _, zR.keep bB, fq.kp (KpT.below bB _), hgc, by omega, by omega⟩
  exact ((World.grownBy_alloc w _ (some gc)).trans hg).trans (gr_of_below bB _)
set_option maxRecDepth 100000 in
set_option maxHeartbeats 8000000 in
theorem any4S (gc sn scap : Nat) (sa : Option Addr) (zs : List Int) (w : World) (h : Src w gc sn scap sa zs) :
    Calls Try.prog 29 #[.pointer (some ⟨gc, 0, none⟩)] w fun e w' => A4 w gc sn scap sa zs e w' := by
  have hgc := h.cur.lt
  have hcD := drawS gc sn scap sa zs 8 _ (h.alloc (.cells #[.slice none 0 0, .int .i64 0] 26)) (by omega)
  have HS : Hid _ := h
  clear h
  go_enter Try.func29, Try.ntmps29
  go_wp2_with fail
  refine hcD.mono ?_
  rintro e W1 ⟨a, n, c, nx, ds, rfl, hTQ, hs, hg⟩
  rw [World.size_alloc] at hTQ
  obtain ⟨g, qs, rfl, hn1, hn2, le0⟩ := LE.new (nx := nx) HS.out hTQ hs hg
  clear hTQ hs hg hcD HS
  go_wp2_with fail
  obtain ⟨W2, hW2⟩ : ∃ W, W1.alloc (.cells #[.slice (some ⟨g, 0, none⟩) n c, .int .i64 nx] 26) = W := ⟨_, rfl⟩
  rw [hW2] at le0 ⊢
  clear hW2
  obtain ⟨T, hT⟩ : ∃ T, W1.heap.size = T := ⟨_, rfl⟩
  rw [hT] at le0 ⊢
  clear hT
  refine (below_step gc sn scap sa zs 12 W2 le0.src (by omega) (by omega)).mono ?_
  rintro e W3 ⟨x, rfl, hx, hs3, hg3⟩
  have le3 := le0.step hs3 hg3
  clear le0 hs3 hg3
  have hcc := le3.fq.cap
  have hTR := le3.ltT
  have hgR := le3.hg
  have t0 := le3.zT.cell 0
  have t1 := le3.zT.cell 1
  have tf0 := le3.zT.frozen 0
  have tf1 := le3.zT.frozen 1
  simp at t0 t1
  by_cases h0 : x = 0
  · subst h0
    rw [show ((0 : Nat) : Int) = 0 from rfl]
    have leA := le3.al (.cells #[.int .i64 1, .int .i64 2, .int .i64 1000, .int .i64 1001] 3)
    have hS1 := int_step gc sn scap sa zs W3.heap.size 4 [1, 2, 1000, 1001] _ leA.src rfl (by omega) (by omega) (by have := le3.src.cur.lt; omega) (fun j hj => ints_cells W3 [1, 2, 1000, 1001] 3 j hj)
    go_wp2_with fail
    refine hS1.mono ?_
    rintro e V ⟨k1, rfl, hk1, s4, g4⟩
    have leB := leA.step s4 g4
    obtain ⟨y, hy⟩ : ∃ o, ([1, 2, 1000, 1001] : List Int).getD k1 0 = o := ⟨_, rfl⟩
    rw [hy]
    have u1 := leB.zT.cell 1
    have uf := leB.zT.frozen 1
    simp at u1
    have leC := leB.set1 (.int .i64 y)
    have z0 := leC.zT.cell 0
    have z1 := leC.zT.cell 1
    have r0 := leC.zR.cell 0
    have r1 := leC.zR.cell 1
    have f0 := leC.zR.frozen 0
    have f1 := leC.zR.frozen 1
    simp at z0 z1 r0 r1
    have HZ : Hid _ := leC.zR
    have HF : Hid _ := leC.fin (n := n) (nx := y) (Nat.le_refl _)
    clear leA leB leC le3 hS1 s4 g4 hy t0 t1 tf0 tf1
    go_wp2
    have zf := blk2 HZ.out (.slice (some ⟨g, 0, none⟩) (n) c) (.int .i64 y)
    have dd0 := zf.cell 0
    have dd1 := zf.cell 1
    simp at dd0 dd1
    refine bodyPost_ret (v := .agg #[.slice (some ⟨g, 0, none⟩) (n) c, .int .i64 y]) (by simp [results, Try.f29, go_sem, dd0, dd1]) rfl ?_
    exact HF.out
  have n0 : ((x : Int) == 0) = false := by simp; omega
  by_cases h1 : x = 1
  · subst h1
    rw [show ((1 : Nat) : Int) = 1 from rfl]
    have leS := le3.dr
    have hcA := l3Any_any gc sn scap sa zs _ leS.src
    have hgS := leS.fq.cap
    go_upto_region 6 with fail
    go_region_law (first
      | (go_simp; go_at_call 30; (with_reducible refine hcA.mono ?_); rintro e V2 ⟨D, v1, v2, v3, rfl, hLB, hDr, s5, g5⟩; obtain ⟨a1, c1, rfl⟩ := val_shape hLB.d; obtain ⟨a2, c2, rfl⟩ := val_shape hLB.e; obtain ⟨a3, c3, rfl⟩ := val_shape hLB.t; have leA := leS.step s5 g5; have p0 := leA.zT.cell 0; have leB := leA.al (.cells #[.int .i64 D.ino, .int .i64 D.kind, .int .i64 D.links, .slice a1 D.data.length c1, .slice a2 D.ents.length c2, .slice a3 D.attrs.length c3] 30); have q0 := leB.zT.cell 0; (simp at p0 q0); have hrow := leB.fq.row; dsimp only)
      | (refine step_app6 (V2.alloc (.cells #[.int .i64 D.ino, .int .i64 D.kind, .int .i64 D.links, .slice a1 D.data.length c1, .slice a2 D.ents.length c2, .slice a3 D.attrs.length c3] 30)) (by rfl) (.tmp 17) (.tmp 20) (by rfl) 0 g n c (iv qs) (Nat.zero_le _) (by first | rfl | simp [Act.eval, Act.put]) hrow (some ⟨V2.heap.size, 0, none⟩) 1 1 (by first | rfl | simp [Act.eval, Act.put]) (InoR.six ⟨D, a1, c1, a2, c2, a3, c3⟩) rfl (.inr ⟨_, rfl, six_news V2 ⟨D, a1, c1, a2, c2, a3, c3⟩ _⟩) (six_one _) (by omega) ?_; intro g6 c6 V6 ho6 hg6 hat6 hlt6; have leC := leB.app ⟨D, a1, c1, a2, c2, a3, c3⟩ (LB.kp hLB.low (KpT.below ((Below.refl _ V2).alloc (Nat.le_refl _) (.cells #[.int .i64 D.ino, .int .i64 D.kind, .int .i64 D.links, .slice a1 D.data.length c1, .slice a2 D.ents.length c2, .slice a3 D.attrs.length c3] 30)) [5, 67, 70]) (by decide) (by decide) (by decide)) hDr.sm (by omega) hg6 g6 c6 ho6 hat6; have w0 := leC.zT.cell 0; have wf := leC.zT.frozen 0; (simp at w0); have leD := leC.set0 (.slice (some ⟨g6, 0, none⟩) (n + 1) c6); have z0 := leD.zT.cell 0; have z1 := leD.zT.cell 1; have r0 := leD.zR.cell 0; have r1 := leD.zR.cell 1; have f0 := leD.zR.frozen 0; have f1 := leD.zR.frozen 1; (simp at z0 z1 r0 r1); have HZ : Hid _ := leD.zR; have HF : Hid _ := leD.fin (n := n + 1) (nx := nx) (Nat.le_refl _); clear leB leC leD hrow)
      | fail)
    all_goals clear le3 leS t0 t1 tf0 tf1 hcA
    all_goals
      go_wp2
      have zf := blk2 HZ.out (.slice (some ⟨g6, 0, none⟩) (n + 1) c6) (.int .i64 nx)
      have dd0 := zf.cell 0
      have dd1 := zf.cell 1
      simp at dd0 dd1
      refine bodyPost_ret (v := .agg #[.slice (some ⟨g6, 0, none⟩) (n + 1) c6, .int .i64 nx]) (by simp [results, Try.f29, go_sem, dd0, dd1]) rfl ?_
      exact HF.out
  have n1 : ((x : Int) == 1) = false := by simp; omega
  by_cases h2 : x = 2
  · subst h2
    rw [show ((2 : Nat) : Int) = 2 from rfl]
    have leS := le3.dr
    have hcB := below_step gc sn scap sa zs n _ leS.src hn1 (by omega)
    go_upto_region 8 with fail
    go_region_law (first
      | (go_simp; go_at_call 56; (with_reducible refine hcB.mono ?_); rintro e V1 ⟨p, rfl, hp, s4, g4⟩; have leA := leS.step s4 g4; have hpi : (p : Int) < (n : Int) := (by omega); have p0 := leA.zT.cell 0; (simp at p0); have hcA := l3Any_any gc sn scap sa zs V1 leA.src; dsimp only)
      | (go_simp; go_at_call 30; (with_reducible refine hcA.mono ?_); rintro e V2 ⟨D, v1, v2, v3, rfl, hLB, hDr, s5, g5⟩; obtain ⟨a1, c1, rfl⟩ := val_shape hLB.d; obtain ⟨a2, c2, rfl⟩ := val_shape hLB.e; obtain ⟨a3, c3, rfl⟩ := val_shape hLB.t; have leB := leA.step s5 g5; have q0 := leB.zT.cell 0; (simp at q0); have ow : OwnI V2 g n c qs := leB.fq.row; have hpl : p < qs.length := (by rw [leB.fq.len]; exact hp); obtain ⟨u0, u1, u2, u3, u4, u5⟩ := ow.six p qs[p] (by simp [hpl]); have o0 := ow.frozen (p * 6); have o1 := ow.frozen (p * 6 + 1); have o2 := ow.frozen (p * 6 + 2); have o3 := ow.frozen (p * 6 + 3); have o4 := ow.frozen (p * 6 + 4); have o5 := ow.frozen (p * 6 + 5); have leC := leB.put ⟨D, a1, c1, a2, c2, a3, c3⟩ hLB.low hDr.sm p hp; have z0 := leC.zT.cell 0; have z1 := leC.zT.cell 1; have r0 := leC.zR.cell 0; have r1 := leC.zR.cell 1; have f0 := leC.zR.frozen 0; have f1 := leC.zR.frozen 1; (simp at z0 z1 r0 r1); have HZ : Hid _ := leC.zR; have HF : Hid _ := leC.fin (n := n) (nx := nx) (Nat.le_refl _); clear leB leC ow; dsimp only)
      | fail)
    all_goals clear le3 leS t0 t1 tf0 tf1 hcB
    all_goals
      go_wp2
      have zf := blk2 HZ.out (.slice (some ⟨g, 0, none⟩) (n) c) (.int .i64 nx)
      have dd0 := zf.cell 0
      have dd1 := zf.cell 1
      simp at dd0 dd1
      refine bodyPost_ret (v := .agg #[.slice (some ⟨g, 0, none⟩) (n) c, .int .i64 nx]) (by simp [results, Try.f29, go_sem, dd0, dd1]) rfl ?_
      exact HF.out
  have n2 : ((x : Int) == 2) = false := by simp; omega
  by_cases h3 : x = 3
  · subst h3
    rw [show ((3 : Nat) : Int) = 3 from rfl]
    have leS := le3.dr
    have hcB := below_step gc sn scap sa zs (n + 1) _ leS.src (by omega) (by omega)
    have hnn : ((n + 1 : Nat) : Int) = (n : Int) + 1 := by omega
    rw [hnn] at hcB
    clear hnn
    have hwr : IntKind.i64.wrap ((n : Int) + 1) = (n : Int) + 1 := by rw [IntKind.wrap_i64]; omega
    go_upto_region 10 with fail
    go_region_law (first
      | (go_simp; go_at_call 56; (with_reducible refine hcB.mono ?_); rintro e V1 ⟨p, rfl, hp, s4, g4⟩; have leA := leS.step s4 g4; have hpi : (p : Int) ≤ (c : Int) := (by omega); have hpc : p ≤ c := (by omega); have p0 := leA.zT.cell 0; have pf := leA.zT.frozen 0; (simp at p0); have leC := leA.set0 (.slice (some ⟨g, 0, none⟩) p c); have z0 := leC.zT.cell 0; have z1 := leC.zT.cell 1; have r0 := leC.zR.cell 0; have r1 := leC.zR.cell 1; have f0 := leC.zR.frozen 0; have f1 := leC.zR.frozen 1; (simp at z0 z1 r0 r1); have HZ : Hid _ := leC.zR; have HF : Hid _ := leC.fin (n := p) (nx := nx) (by omega); clear leC; dsimp only)
      | fail)
    all_goals clear le3 leS t0 t1 tf0 tf1 hcB
    all_goals
      go_wp2
      have zf := blk2 HZ.out (.slice (some ⟨g, 0, none⟩) (p) c) (.int .i64 nx)
      have dd0 := zf.cell 0
      have dd1 := zf.cell 1
      simp at dd0 dd1
      refine bodyPost_ret (v := .agg #[.slice (some ⟨g, 0, none⟩) (p) c, .int .i64 nx]) (by simp [results, Try.f29, go_sem, dd0, dd1]) rfl ?_
      exact HF.out
  have n3 : ((x : Int) == 3) = false := by simp; omega
  clear t0 t1 tf0 tf1
  have z0 := le3.zT.cell 0
  have z1 := le3.zT.cell 1
  have r0 := le3.zR.cell 0
  have r1 := le3.zR.cell 1
  have f0 := le3.zR.frozen 0
  have f1 := le3.zR.frozen 1
  simp at z0 z1 r0 r1
  have HZ : Hid _ := le3.zR
  have HF : Hid _ := le3.fin (n := n) (nx := nx) (Nat.le_refl _)
  clear le3
  go_wp2
  have zf := blk2 HZ.out (.slice (some ⟨g, 0, none⟩) (n) c) (.int .i64 nx)
  have dd0 := zf.cell 0
  have dd1 := zf.cell 1
  simp at dd0 dd1
  refine bodyPost_ret (v := .agg #[.slice (some ⟨g, 0, none⟩) (n) c, .int .i64 nx]) (by simp [results, Try.f29, go_sem, dd0, dd1]) rfl ?_
  exact HF.out
end

section
open Go.RowKit
theorem FQ.other {W W' : World} {g N c X : Nat} {qs : List InoR} (h : FQ W g N c qs) (k : W.grownBy W' (some X)) (hX : g ≠ X) (kk : KpT W W' [5, 67, 70]) : FQ W' g N c qs :=
  ⟨h.len, h.n, World.ownsRow.kept h.row k (.inr (by simpa [Value.ownBlock] using hX)), fun r hr => ⟨LB.kp (h.els r hr).1 kk (by decide) (by decide) (by decide), (h.els r hr).2⟩⟩
/-- What DrawSetInode draws. -/
def DSP (w : World) (e : Ending) (w' : World) : Prop :=
  ∃ (g N m c : Nat) (nx : Int) (qs : List InoR) (D : InoD) (a1 : Option Addr) (c1 : Nat) (a2 : Option Addr) (c2 : Nat) (a3 : Option Addr) (c3 : Nat), e = .returned (.tuple #[.agg #[.slice (some ⟨g, 0, none⟩) m c, .int .i64 nx], .agg #[.int .i64 D.ino, .int .i64 D.kind, .int .i64 D.links, .slice a1 D.data.length c1, .slice a2 D.ents.length c2, .slice a3 D.attrs.length c3]]) ∧ m ≤ N ∧ FQ w' g N c qs ∧ InoRd w' D a1 a2 a3 ∧ DrA D ∧ Below w.heap.size w w'
theorem ds4_end {w W : World} {g N m c : Nat} {nx : Int} {qs : List InoR} {D : InoD} {a1 a2 a3 : Option Addr} {c1 c2 c3 : Nat} {t0 t1 : Value} {xs : Array Value} (hb : Below w.heap.size w W) (z1 : Blk W w.heap.size 26 #[t0, t1]) (z2 : Blk W (w.heap.size + 1) 30 xs) (hm : m ≤ N) (hg : w.heap.size + 1 < g) (fq : FQ W g N c qs) (lb : LB W 0 D (.slice a1 D.data.length c1) (.slice a2 D.ents.length c2) (.slice a3 D.attrs.length c3)) (hD : DrA D) (u0 u1 y0 y1 y2 y3 y4 y5 : Value) :
    DSP w (.returned (.tuple #[.agg #[.slice (some ⟨g, 0, none⟩) m c, .int .i64 nx], .agg #[.int .i64 D.ino, .int .i64 D.kind, .int .i64 D.links, .slice a1 D.data.length c1, .slice a2 D.ents.length c2, .slice a3 D.attrs.length c3]])) ((((((((W.setCell ⟨w.heap.size, 0, none⟩ u0).setCell ⟨w.heap.size, 1, none⟩ u1).setCell ⟨w.heap.size + 1, 0, none⟩ y0).setCell ⟨w.heap.size + 1, 1, none⟩ y1).setCell ⟨w.heap.size + 1, 2, none⟩ y2).setCell ⟨w.heap.size + 1, 3, none⟩ y3).setCell ⟨w.heap.size + 1, 4, none⟩ y4).setCell ⟨w.heap.size + 1, 5, none⟩ y5) := by
  have gA : W.grownBy ((W.setCell ⟨w.heap.size, 0, none⟩ u0).setCell ⟨w.heap.size, 1, none⟩ u1) (some w.heap.size) := gr_more (gr_setC W w.heap.size 0 u0) 1 u1
  have kA : KpT W ((W.setCell ⟨w.heap.size, 0, none⟩ u0).setCell ⟨w.heap.size, 1, none⟩ u1) [30, 5, 67, 70] := KpT.grown gA z1 (by decide)
  have z2' := z2.kp kA (by decide)
  have fqA := fq.kp kA
  have lbA := lb.kp kA (by decide) (by decide) (by decide)
  have bA : Below w.heap.size w ((W.setCell ⟨w.heap.size, 0, none⟩ u0).setCell ⟨w.heap.size, 1, none⟩ u1) := hb.grown gA hb.size (fun m hm => by simp at hm; omega)
  generalize (W.setCell ⟨w.heap.size, 0, none⟩ u0).setCell ⟨w.heap.size, 1, none⟩ u1 = V at z2' fqA lbA bA ⊢
  have gB := gr_more (gr_more (gr_more (gr_more (gr_more (gr_setC V (w.heap.size + 1) 0 y0) 1 y1) 2 y2) 3 y3) 4 y4) 5 y5
  have kB := KpT.grown (ts := [5, 67, 70]) gB z2' (by decide)
  exact ⟨g, N, m, c, nx, qs, D, a1, c1, a2, c2, a3, c3, rfl, hm, fqA.other gB (by omega) kB, InoG.rds (lbA.kp kB (by decide) (by decide) (by decide)).g, hD, bA.grown gB bA.size (fun m hm => by simp at hm; omega)⟩
set_option maxRecDepth 100000 in
set_option maxHeartbeats 2000000 in
theorem drawSetS (a : Option Addr) (n cap : Nat) (zs : List Int) (w : World) (hn : zs.length = n) (hs : n ≤ 1048576) (hr : Rd w a zs) (hb : Byt zs) :
    Calls Try.prog 8 #[.slice a n cap] w fun e w' => DSP w e w' := by
  have b0 : Below w.heap.size w ((w.alloc (.cells #[.slice none 0 0, .int .i64 0] 26)).alloc (.cells #[.int .i64 0, .int .i64 0, .int .i64 0, .slice none 0 0, .slice none 0 0, .slice none 0 0] 30)) := ((Below.refl _ w).alloc (Nat.le_refl _) _).alloc (by simp) _
  have zA : Blk ((w.alloc (.cells #[.slice none 0 0, .int .i64 0] 26)).alloc (.cells #[.int .i64 0, .int .i64 0, .int .i64 0, .slice none 0 0, .slice none 0 0, .slice none 0 0] 30)) w.heap.size 26 #[.slice none 0 0, .int .i64 0] := (Blk.new w _ _).alloc _
  have zB := Blk.new (w.alloc (.cells #[.slice none 0 0, .int .i64 0] 26)) 30 #[.int .i64 0, .int .i64 0, .int .i64 0, .slice none 0 0, .slice none 0 0, .slice none 0 0]
  simp only [World.size_alloc] at zB
  have hsz : ((w.alloc (.cells #[.slice none 0 0, .int .i64 0] 26)).alloc (.cells #[.int .i64 0, .int .i64 0, .int .i64 0, .slice none 0 0, .slice none 0 0, .slice none 0 0] 30)).heap.size = w.heap.size + 2 := by simp
  have HSZ : Hid _ := hsz
  have HB0 : Hid _ := b0
  clear hsz
  go_enter Try.func8, Try.ntmps8
  go_wp2_with fail
  refine (new_step a n cap zs _ hn hs (hr.keep b0) hb).mono ?_
  rintro e w1 ⟨rfl, s1, b1⟩
  have zA1 := zA.keep b1
  have zB1 := zB.keep b1
  have B1 := HB0.out.trans (b1.mono HB0.out.size)
  have HS1 : Hid (w.heap.size + 2 ≤ w1.heap.size) := by have := b1.size; rw [HSZ.out] at this; exact this
  rw [HSZ.out] at s1 ⊢
  clear zA zB b0 b1 hr hb hn
  go_wp2_with fail
  (with_reducible refine (any4S _ n cap a zs w1 s1).mono ?_)
  rintro e w2 ⟨g, N, m, c, nx, qs, rfl, hm, hg, fq, s2, g2⟩
  have zA2 := zA1.kept g2 (by omega)
  have zB2 := zB1.kept g2 (by omega)
  have B2 : Below w.heap.size w w2 := B1.grown g2 B1.size (fun m hm => by simp at hm; omega)
  have hg' : w.heap.size + 1 < g := by have := HS1.out; omega
  clear zA1 zB1 B1 s1 g2 hg HS1
  go_wp2_with fail
  (with_reducible refine (l3Any_any _ n cap a zs w2 s2).mono ?_)
  rintro e w3 ⟨D, v1, v2, v3, rfl, lb, hD, s3, g3⟩
  obtain ⟨a1, c1, rfl⟩ := val_shape lb.d
  obtain ⟨a2, c2, rfl⟩ := val_shape lb.e
  obtain ⟨a3, c3, rfl⟩ := val_shape lb.t
  have zA3 := zA2.kept g3 (by omega)
  have zB3 := zB2.kept g3 (by omega)
  have B3 : Below w.heap.size w w3 := B2.grown g3 B2.size (fun m hm => by simp at hm; omega)
  obtain ⟨vs, hcb⟩ := cur_blk s2
  have fq3 := fq.kp (KpT.grown g3 hcb (by decide))
  have HE : Hid _ := fun (u0 u1 y0 y1 y2 y3 y4 y5 : Value) => ds4_end (nx := nx) B3 zA3 zB3 hm hg' fq3 lb.low hD u0 u1 y0 y1 y2 y3 y4 y5
  have r0 := zA3.cell 0
  have r1 := zA3.cell 1
  have f0 := zA3.frozen 0
  have f1 := zA3.frozen 1
  have zB4 := (zB3.other (B' := w.heap.size) (by omega) 0 (.slice (some ⟨g, 0, none⟩) m c)).other (B' := w.heap.size) (by omega) 1 (.int .i64 nx)
  obtain ⟨q0, q1, q2, q3, q4, q5⟩ := zB4.six
  have e0 := zB4.frozen 0
  have e1 := zB4.frozen 1
  have e2 := zB4.frozen 2
  have e3 := zB4.frozen 3
  have e4 := zB4.frozen 4
  have e5 := zB4.frozen 5
  simp at r0 r1
  have HA : Hid _ := zA3
  have HB : Hid _ := zB4
  clear zA2 zB2 zA3 zB3 zB4 B2 B3 s2 s3 g3 hcb fq fq3 lb
  go_wp2
  have zf1 := ((((((blk2 HA.out (.slice (some ⟨g, 0, none⟩) m c) (.int .i64 nx)).other (B' := w.heap.size + 1) (by omega) 0 (.int .i64 D.ino)).other (B' := w.heap.size + 1) (by omega) 1 (.int .i64 D.kind)).other (B' := w.heap.size + 1) (by omega) 2 (.int .i64 D.links)).other (B' := w.heap.size + 1) (by omega) 3 (.slice a1 D.data.length c1)).other (B' := w.heap.size + 1) (by omega) 4 (.slice a2 D.ents.length c2)).other (B' := w.heap.size + 1) (by omega) 5 (.slice a3 D.attrs.length c3)
  have zf2 := (((((Blk.set HB.out 0 (.int .i64 D.ino)).set 1 (.int .i64 D.kind)).set 2 (.int .i64 D.links)).set 3 (.slice a1 D.data.length c1)).set 4 (.slice a2 D.ents.length c2)).set 5 (.slice a3 D.attrs.length c3)
  have d0 := zf1.cell 0
  have d1 := zf1.cell 1
  have dd0 := zf2.cell 0
  have dd1 := zf2.cell 1
  have dd2 := zf2.cell 2
  have dd3 := zf2.cell 3
  have dd4 := zf2.cell 4
  have dd5 := zf2.cell 5
  simp at d0 d1 dd0 dd1 dd2 dd3 dd4 dd5
  refine bodyPost_ret (v := .tuple #[.agg #[.slice (some ⟨g, 0, none⟩) m c, .int .i64 nx], .agg #[.int .i64 D.ino, .int .i64 D.kind, .int .i64 D.links, .slice a1 D.data.length c1, .slice a2 D.ents.length c2, .slice a3 D.attrs.length c3]]) (by simp [results, Try.f8, go_sem, d0, d1, dd0, dd1, dd2, dd3, dd4, dd5]) rfl ?_
  exact HE.out _ _ _ _ _ _ _ _
end
end Go.Proofs.Ytgcmpimckpnemaa
