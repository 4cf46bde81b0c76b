/-
  What the law on DropInode needs: tables whose row may be nil, compared and marked.
-/
import Derived.Test.YtnllhpeddoaehaaDropI
import Derived.Test.YtnllhpeddoaehaaAtW
namespace Go.Proofs.Ytnllhpeddoaehaa
open Go.RowKit

theorem DQT.outs {B : Nat} {W W' : World} {v : Value} {ds : List InoR} {js : List InoJ} {Lo Hi : Nat} (h : DQT B W v ds js) (k : Out Lo Hi W W') (hd : Hi ≤ B) : DQT B W' v ds js := by
  refine ⟨h.ds, ?_, ⟨fun i j e => InoG.kept (h.jq.G i j e) (fun b h1 h2 => k.block b (by have := h.jq.lo i j e; omega) (by have := h.jq.lo i j e; omega)), fun i j e => by have := h.jq.lo i j e; have := k.size; omega, h.jq.ord⟩, h.ap⟩
  refine ⟨h.row.1, h.row.2.imp id (fun ⟨g, c, cur, h1, h2, h3, rest⟩ => ⟨g, c, cur, h1, h2, ?_, rest⟩)⟩
  rw [k.block g (Array.getElem?_eq_some_iff.1 h3).1 (by omega)]
  exact h3
theorem DQT.cases {B : Nat} {W : World} {a : Option Addr} {n c : Nat} {ds : List InoR} {js : List InoJ} (h : DQT B W (.slice a n c) ds js) (hn : js.length = n) : (a = none ∧ js = [] ∧ n = 0 ∧ c = 0) ∨ ∃ g, a = some ⟨g, 0, none⟩ ∧ B ≤ g ∧ OwnI W g n c (js.map InoJ.r) := by
  have hr := h.row
  rw [hn] at hr
  rcases hr.2 with ⟨h1, h2⟩ | ⟨g, c', cur, h1, h2, rest⟩
  · simp at h1
    obtain ⟨rfl, h3, rfl⟩ := h1
    exact .inl ⟨rfl, List.length_eq_zero_iff.1 (by omega), h3, rfl⟩
  · simp at h1
    obtain ⟨rfl, rfl⟩ := h1
    exact .inr ⟨g, rfl, h2, ⟨hr.1, .inr ⟨g, _, cur, rfl, Nat.zero_le _, rest⟩⟩⟩
theorem InoJ.G.rd {w : World} {j : InoJ} (h : j.G w) : j.r.rd w := by
  obtain ⟨a1, c1, a2, c2, a3, c3, e1, e2, e3, hr⟩ := InoG.form h
  simp [InoJ.v1] at e1
  simp [InoJ.v2] at e2
  simp [InoJ.v3] at e3
  unfold InoR.rd
  rw [e1.1, e2.1, e3.1]
  exact hr
theorem DQT.rd {B : Nat} {W : World} {a : Option Addr} {n c : Nat} {ds : List InoR} {js : List InoJ} (h : DQT B W (.slice a n c) ds js) (hn : js.length = n) : RdI W a (js.map InoJ.r) := by
  rcases h.cases hn with ⟨_, rfl, _, _⟩ | ⟨g, rfl, _, ho⟩
  · exact .inl rfl
  · refine OwnI.rds ho (fun r hr => ?_)
    obtain ⟨j, hj, rfl⟩ := List.mem_map.1 hr
    obtain ⟨i, hi⟩ := List.getElem?_of_mem hj
    exact (h.jq.G i j hi).rd
theorem DQT.small {B : Nat} {W : World} {v : Value} {ds : List InoR} {js : List InoJ} (h : DQT B W v ds js) (hs : ∀ r ∈ ds, InoSmall r.D) : ∀ r ∈ js.map InoJ.r, InoSmall r.D := by
  intro r hr
  have h1 : r.D ∈ (js.map InoJ.r).map InoR.D := List.mem_map_of_mem hr
  rw [h.ds] at h1
  obtain ⟨q, hq, hqr⟩ := List.mem_map.1 h1
  rw [← hqr]
  exact hs q hq
theorem eqV {B B' : Nat} {W : World} {a a' : Option Addr} {n c c' : Nat} {ds : List InoR} {js js' : List InoJ} (nx : Int) (hs : n ≤ 1048576) (hsm : ∀ r ∈ ds, InoSmall r.D) (h : DQT B W (.slice a n c) ds js) (h' : DQT B' W (.slice a' n c') ds js') (hn : js.length = n) (hn' : js'.length = n) :
    Calls Try.prog 40 #[.agg #[.slice a n c, .int .i64 nx], .agg #[.slice a' n c', .int .i64 nx]] W fun e w' => e = .returned (.bool true) ∧ Below W.heap.size W w' :=
  eqTab_same _ _ n c c' nx _ _ W (by rw [List.length_map]; exact hn) (by omega) (by rw [h'.ds, h.ds]) (h.small hsm) (h.rd hn) (h'.rd hn')
/-- A marked table, whose row may be nil. -/
def TV (W : World) (B T : Nat) (a : Option Addr) (n c : Nat) (js : List InoJ) : Prop := (a = none ∧ js = [] ∧ n = 0 ∧ c = 0) ∨ ∃ g w0, a = some ⟨g, 0, none⟩ ∧ ApJ g B T js ∧ TabL w0 W g n c B T 1 js n
theorem TV.keep {W W' : World} {B T : Nat} {a : Option Addr} {n c : Nat} {js : List InoJ} (h : TV W B T a n c js) (hT : T ≤ W.heap.size) (hb : Below W.heap.size W W') : TV W' B T a n c js :=
  h.imp id (fun ⟨g, w0, h1, h2, h3⟩ => ⟨g, w0, h1, h2, h3.keep h2 hT hb⟩)
/-- That the parts of a table lie apart, below T. -/
def ApV (T : Nat) (v : Value) (js : List InoJ) : Prop := (∀ (i : Nat) (j : InoJ), js[i]? = some j → j.hi ≤ T) ∧ ∀ g, v.ownBlock = some g → g < T
theorem DQT.apV {B : Nat} {W : World} {v : Value} {ds : List InoR} {js : List InoJ} (h : DQT B W v ds js) : ApV W.heap.size v js := ⟨fun i j e => (h.jq.lo i j e).2.2, fun g hg => (World.ownsRow.lt h.row g hg).2⟩
theorem DQT.outsLow {B T : Nat} {W W' : World} {v : Value} {ds : List InoR} {js : List InoJ} {Lo Hi : Nat} (h : DQT B W v ds js) (ap : ApV T v js) (k : Out Lo Hi W W') (hd : T ≤ Lo) : DQT B W' v ds js := by
  refine ⟨h.ds, ?_, ⟨fun i j e => InoG.kept (h.jq.G i j e) (fun b h1 h2 => k.block b (by have := h.jq.lo i j e; omega) (by have := ap.1 i j e; omega)), fun i j e => by have := h.jq.lo i j e; have := k.size; omega, h.jq.ord⟩, h.ap⟩
  refine ⟨h.row.1, h.row.2.imp id (fun ⟨g, c, cur, h1, h2, h3, rest⟩ => ⟨g, c, cur, h1, h2, ?_, rest⟩)⟩
  have := ap.2 g (by rw [h1]; rfl)
  rw [k.block g (Array.getElem?_eq_some_iff.1 h3).1 (by omega)]
  exact h3
set_option maxHeartbeats 800000 in
theorem markTab_nil (nx : Int) (W : World) : Calls Try.prog 41 #[.agg #[.slice none 0 0, .int .i64 nx], .int .i64 1] W fun e w' => e = .returned (.int .i64 1) ∧ Below W.heap.size W w' := by
  have hc : ∀ V : World, Calls Try.prog 94 #[.slice none 0 0, .int .i64 1] V fun e w' => e = .returned (.int .i64 1) ∧ Below V.heap.size V w' := by
    intro V
    go_enter Try.func94, Try.ntmps94
    go_wp2
    refine wp_loop_rounds 1 ?_; rw [rounds_succ]
    go_wp2
    go_ret
    exact ⟨rfl, Below.refl _ _⟩
  have b0 : Below W.heap.size W (W.alloc (.cells #[.slice none 0 0, .int .i64 nx] 43)) := (Below.refl _ W).alloc (Nat.le_refl _) _
  have HB : Hid _ := b0
  have hcc := hc (W.alloc (.cells #[.slice none 0 0, .int .i64 nx] 43))
  clear hc b0
  go_enter Try.func41, Try.ntmps41
  go_wp2_with fail
  refine hcc.mono ?_
  rintro e w1 ⟨rfl, b1⟩
  go_wp2
  go_ret
  exact ⟨rfl, HB.out.trans (b1.mono HB.out.size)⟩
set_option maxHeartbeats 800000 in
theorem heldTab_nil (nx : Int) (W : World) : Calls Try.prog 42 #[.agg #[.slice none 0 0, .int .i64 nx], .int .i64 1] W fun e w' => e = .returned (.int .i64 1) ∧ Below W.heap.size W w' := by
  have hc : ∀ V : World, Calls Try.prog 95 #[.slice none 0 0, .int .i64 1] V fun e w' => e = .returned (.int .i64 1) ∧ Below V.heap.size V w' := by
    intro V
    go_enter Try.func95, Try.ntmps95
    go_wp2
    refine wp_loop_rounds 1 ?_; rw [rounds_succ]
    go_wp2
    go_ret
    exact ⟨rfl, Below.refl _ _⟩
  have b0 : Below W.heap.size W (W.alloc (.cells #[.slice none 0 0, .int .i64 nx] 43)) := (Below.refl _ W).alloc (Nat.le_refl _) _
  have HB : Hid _ := b0
  have hcc := hc (W.alloc (.cells #[.slice none 0 0, .int .i64 nx] 43))
  clear hc b0
  go_enter Try.func42, Try.ntmps42
  go_wp2_with fail
  refine hcc.mono ?_
  rintro e w1 ⟨rfl, b1⟩
  go_wp2
  go_ret
  exact ⟨rfl, HB.out.trans (b1.mono HB.out.size)⟩
theorem markV {B T : Nat} {W : World} {a : Option Addr} {n c : Nat} {ds : List InoR} {js : List InoJ} (nx : Int) (hs : n ≤ 2000000) (hq : qAt 1 js n ≤ 9999990) (h : DQT B W (.slice a n c) ds js) (hn : js.length = n) (hT : T ≤ W.heap.size) (hap : ApV T (.slice a n c) js) :
    Calls Try.prog 41 #[.agg #[.slice a n c, .int .i64 nx], .int .i64 1] W fun e w' => e = .returned (.int .i64 ((qAt 1 js n : Nat) : Int)) ∧ TV w' B T a n c js ∧ Out B T W w' := by
  rcases h.cases hn with ⟨rfl, rfl, rfl, rfl⟩ | ⟨g, rfl, hg, ho⟩
  · exact (markTab_nil nx W).mono fun e w' ⟨h1, h2⟩ => ⟨h1, .inl ⟨rfl, rfl, rfl, rfl⟩, Below.out h2 _ _⟩
  · have ap : ApJ g B T js := ⟨fun i i' j j' e e' hne => by
        rcases Nat.lt_or_gt_of_ne hne with hl | hl
        · exact .inl (h.jq.ord i i' j j' hl e e')
        · exact .inr (h.jq.ord i' i j' j hl e' e),
      fun i j e => h.ap g rfl i j e, fun i j e => ⟨(h.jq.lo i j e).1, hap.1 i j e⟩, ⟨hg, hap.2 g rfl⟩⟩
    exact (markTab_any nx g n c B T 1 js W hn (Nat.le_refl _) hs hq ap hT ho h.jq.G).mono fun e w' ⟨h1, h2⟩ => ⟨h1, .inr ⟨g, W, rfl, ap, h2⟩, h2.out⟩
theorem heldV {B T : Nat} {W : World} {a : Option Addr} {n c : Nat} {js : List InoJ} (nx : Int) (hs : n ≤ 2000000) (hq : qAt 1 js n ≤ 9999990) (hn : js.length = n) (hT : T ≤ W.heap.size) (h : TV W B T a n c js) :
    Calls Try.prog 42 #[.agg #[.slice a n c, .int .i64 nx], .int .i64 1] W fun e w' => e = .returned (.int .i64 ((qAt 1 js n : Nat) : Int)) ∧ Below W.heap.size W w' := by
  rcases h with ⟨rfl, rfl, rfl, rfl⟩ | ⟨g, w0, rfl, ap, hL⟩
  · exact heldTab_nil nx W
  · exact heldTab_any w0 nx g n c B T 1 js W hn (Nat.le_refl _) hs hq ap hT hL
theorem drop_small {rs : List InoR} (x : Int) (h : ∀ r ∈ rs, InoSmall r.D) : ∀ r ∈ dropR rs x, InoSmall r.D := fun r hr => h r (List.mem_filter.1 hr).1
theorem drop_cnt (rs : List InoR) (x : Int) : (dropR rs x).length + cntI (dropR rs x) ≤ rs.length + cntI rs := by
  unfold dropR cntI
  induction rs with
  | nil => simp
  | cons r rs ih =>
    rw [List.filter_cons]
    split <;> simp only [List.map_cons, List.sum_cons, List.length_cons] <;> omega
theorem dropR_D (rs ts : List InoR) (x : Int) (h : ts.map InoR.D = rs.map InoR.D) : (dropR ts x).map InoR.D = (dropR rs x).map InoR.D := by
  have e : ∀ l : List InoR, (dropR l x).map InoR.D = (l.map InoR.D).filter fun D => D.ino != x := fun l => by
    unfold dropR
    rw [List.filter_map]
    rfl
  rw [e, e, h]
theorem DQT.cong {B : Nat} {W : World} {v : Value} {ds ds' : List InoR} {js : List InoJ} (h : DQT B W v ds js) (he : ds.map InoR.D = ds'.map InoR.D) : DQT B W v ds' js := ⟨by rw [h.ds, he], h.row, h.jq, h.ap⟩
/-- What both DropInode functions answer of a copied table. -/
def DropOut (W : World) (nx : Int) (m : Nat) (ds : List InoR) (e : Ending) (w' : World) : Prop :=
  ∃ (a : Option Addr) (c : Nat) (js : List InoJ), e = .returned (.agg #[.slice a m c, .int .i64 nx]) ∧ DQT W.heap.size w' (.slice a m c) ds js ∧ js.length = m ∧ Below W.heap.size W w'
theorem drop_out {W w' : World} {nx : Int} {ds ds' : List InoR} {e : Ending} (h : DropPost W nx ds e w') (he : ds.map InoR.D = ds'.map InoR.D) : DropOut W nx ds'.length ds' e w' := by
  obtain ⟨a, c, js, h1, h2, h3⟩ := h
  have hl : js.length = ds'.length := by rw [h2.len]; have := congrArg List.length he; simpa using this
  rw [hl] at h1 h2
  exact ⟨a, c, js, h1, h2.cong he, hl, h3⟩
theorem dropSQ {W : World} {B g n : Nat} {rs ts : List InoR} (nx x : Int) (hs : n ≤ 1048576) (hsm : ∀ r ∈ rs, InoSmall r.D) (h : TabQ W B g n rs ts) :
    Calls Try.prog 50 #[.agg #[.slice (some ⟨g, 0, none⟩) n n, .int .i64 nx], .int .i64 x] W fun e w' => DropOut W nx (dropR rs x).length (dropR rs x) e w' :=
  (dropS (some ⟨g, 0, none⟩) n n nx x ts W h.tlen hs (h.cpd.small hsm) h.rd).mono fun _ _ hp => drop_out hp (dropR_D rs ts x h.cpd.1)
theorem dropIQ {W : World} {B g n : Nat} {rs ts : List InoR} (nx x : Int) (hs : n ≤ 1048576) (hwx : (Lit.int .i64 x).wf = true) (hwf : ∀ r ∈ rs, (Lit.int .i64 r.D.ino).wf = true) (hsm : ∀ r ∈ rs, InoSmall r.D) (h : TabQ W B g n rs ts) :
    Calls Try.prog 29 #[.agg #[.slice (some ⟨g, 0, none⟩) n n, .int .i64 nx], .int .i64 x] W fun e w' => DropOut W nx (dropR rs x).length (dropR rs x) e w' :=
  (dropI (some ⟨g, 0, none⟩) n n nx x ts W h.tlen hs hwx (wf_cong h.cpd.1 hwf) (h.cpd.small hsm) h.rd).mono fun _ _ hp => drop_out hp (dropR_D rs ts x h.cpd.1)
end Go.Proofs.Ytnllhpeddoaehaa
