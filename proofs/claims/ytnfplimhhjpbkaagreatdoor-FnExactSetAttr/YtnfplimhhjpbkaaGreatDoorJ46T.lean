/-
  Joined: Draw, Data6, Trunc6.
-/
import Derived.Test.YtnfplimhhjpbkaaGreatDoorJ45T
import Derived.Test.YtnfplimhhjpbkaaGreatDoorTreeST
import Derived.Laws.BitsLemmas
namespace Go.Proofs.YtnfplimhhjpbkaaGreatDoor
section
open Go.RowKit
/-- The cursor gc over the slice (a, n, cap). -/
def Cur (w : World) (gc : Nat) (a : Option Addr) (n cap : Nat) : Prop :=
  ∃ (i : Nat) (h : Int), i ≤ n ∧ w.heap[gc]? = some (.cells #[.slice a n cap, .int .i64 i, .int .i64 h] 128 (0, 0))
theorem Cur.kept {w w' : World} {gc n cap g : Nat} {a : Option Addr} (h : Cur w gc a n cap) (hg : w.grownBy w' (some g)) (hne : gc ≠ g) : Cur w' gc a n cap := by
  obtain ⟨i, hh, hi, hb⟩ := h
  exact ⟨i, hh, hi, by rw [hg.block gc (Array.getElem?_eq_some_iff.1 hb).1 (by simpa using hne)]; exact hb⟩
theorem Cur.keep {w w' : World} {gc n cap B : Nat} {a : Option Addr} (h : Cur w gc a n cap) (hb : Below B w w') (hg : gc < B) : Cur w' gc a n cap := by
  obtain ⟨i, hh, hi, hbk⟩ := h
  exact ⟨i, hh, hi, by rw [hb.block gc hg]; exact hbk⟩
theorem Cur.lt {w : World} {gc n cap : Nat} {a : Option Addr} (h : Cur w gc a n cap) : gc < w.heap.size := by
  obtain ⟨i, hh, hi, hb⟩ := h
  exact (Array.getElem?_eq_some_iff.1 hb).1
theorem Rd.kept {w w' : World} {a : Option Addr} {zs : List Int} {g : Nat} (h : Rd w a zs) (hg : w.grownBy w' (some g)) (hne : zs ≠ [] → ∀ b off, a = some ⟨b, off, none⟩ → b ≠ g) : Rd w' a zs := by
  by_cases hz : zs = []
  · exact .inl hz
  · obtain ⟨b, off, rfl, hlt, hc⟩ := h.lt hz
    refine .inr ⟨b, off, rfl, fun i hi => ?_⟩
    have := hne hz b off rfl
    exact hg.cell (hc i hi) (by simpa using this)
/-- What a step of the cursor needs: the cursor, and the bytes that it reads, apart from it. -/
structure Src (w : World) (gc n cap : Nat) (a : Option Addr) (zs : List Int) : Prop where
  len : zs.length = n
  small : n ≤ 1048576
  cur : Cur w gc a n cap
  rd : Rd w a zs
  byt : Byt zs
  ne : zs ≠ [] → ∀ b off, a = some ⟨b, off, none⟩ → b < gc
theorem Src.step {w w' : World} {gc n cap : Nat} {a : Option Addr} {zs : List Int} (h : Src w gc n cap a zs) (hc : Cur w' gc a n cap) (hg : w.grownBy w' (some gc)) : Src w' gc n cap a zs :=
  ⟨h.len, h.small, hc, h.rd.kept hg (fun hz b off e => Nat.ne_of_lt (h.ne hz b off e)), h.byt, h.ne⟩
theorem Src.keep {w w' : World} {gc n cap : Nat} {a : Option Addr} {zs : List Int} (h : Src w gc n cap a zs) (hb : Below w.heap.size w w') : Src w' gc n cap a zs :=
  ⟨h.len, h.small, h.cur.keep hb h.cur.lt, h.rd.keep hb, h.byt, h.ne⟩
theorem Byt.snoc {ys : List Int} {x : Nat} (h : Byt ys) (hx : x ≤ 255) : Byt (ys ++ [(x : Int)]) := by
  intro z hz
  simp only [List.mem_append, List.mem_cons, List.not_mem_nil, or_false] at hz
  rcases hz with hz | hz
  · exact h z hz
  · omega
theorem Src.alloc {w : World} {gc n cap : Nat} {a : Option Addr} {zs : List Int} (h : Src w gc n cap a zs) (o : Obj) : Src (w.alloc o) gc n cap a zs := h.keep ((Below.refl _ _).alloc (Nat.le_refl _) o)
theorem Src.other {w w' : World} {gc n cap g : Nat} {a : Option Addr} {zs : List Int} (h : Src w gc n cap a zs) (hg : w.grownBy w' (some g)) (h1 : gc < g) : Src w' gc n cap a zs :=
  ⟨h.len, h.small, h.cur.kept hg (Nat.ne_of_lt h1), h.rd.kept hg (fun hz b off e => Nat.ne_of_lt (Nat.lt_trans (h.ne hz b off e) h1)), h.byt, h.ne⟩
theorem Src.drew {w : World} {gc n cap : Nat} {a : Option Addr} {zs : List Int} (h : Src w gc n cap a zs) : Src w.drew gc n cap a zs := h.keep (Below.refl _ _).drew
theorem Rd.at {w : World} {a : Option Addr} {zs : List Int} (h : Rd w a zs) : zs ≠ [] → ∀ b off, a = some ⟨b, off, none⟩ → b < w.heap.size := by
  intro hz b off e
  obtain ⟨b', off', e', hlt, _⟩ := h.lt hz
  rw [e] at e'
  simp at e'
  omega
end

section
open Go.RowKit
/-- How many bytes the box's slice has. -/
def lenAt (w : World) (X : Nat) : Nat := match w.cell? ⟨X, 3, none⟩ with | some (.slice _ k _) => k | _ => 0
/-- What is known while an inode's bytes are written. -/
structure DXL (w W3 wr : World) (B X : Nat) (D : InoD) (v : Value) (k : Nat) (zs : List Int) (s2 s3 : Value) : Prop where
  x : Blk wr X 66 #[.int .i64 D.ino, .int .i64 D.kind, .int .i64 D.links, v, s2, s3]
  row : wr.ownsRow B 5 1 v k (zs.map (Value.int .u8))
  kp : KpT W3 wr [26, 86, 89]
  below : Below w.heap.size w wr
  hX : w.heap.size ≤ X
  hB : w.heap.size ≤ B
theorem DXL.len {w W3 wr : World} {B X : Nat} {D : InoD} {v : Value} {k : Nat} {zs : List Int} {s2 s3 : Value} (h : DXL w W3 wr B X D v k zs s2 s3) : zs.length = k := by have := h.row.1; simpa using this
theorem DXL.ne {w W3 wr : World} {B X : Nat} {D : InoD} {v : Value} {k : Nat} {zs : List Int} {s2 s3 : Value} (h : DXL w W3 wr B X D v k zs s2 s3) {g : Nat} (hg : v.ownBlock = some g) : X ≠ g := by
  rintro rfl
  obtain ⟨_, cur, h1⟩ := row_at h.row hg
  have h2 : wr.heap[X]? = _ := h.x
  rw [h1] at h2
  simp at h2
theorem kpT_trans {W W1 W' : World} {ts : List TypeId} (h : KpT W W1 ts) (k : KpT W1 W' ts) : KpT W W' ts := fun B cur t fr hB ht => by
  have h1 := h B cur t fr hB ht
  rw [k B cur t fr (h1.trans hB) ht, h1]
theorem DXL.form {w W3 wr : World} {B X : Nat} {D : InoD} {v : Value} {k : Nat} {zs : List Int} {s2 s3 : Value} (h : DXL w W3 wr B X D v k zs s2 s3) : ∃ a c, v = .slice a k c ∧ k ≤ c ∧ Rd wr a zs := by
  have hl := h.len
  rcases h.row.2 with ⟨h1, h2⟩ | ⟨g, c, cur, h1, _, hg, hc, rest⟩
  · subst h2
    exact ⟨none, 0, h1, Nat.le_refl _, .inl (List.length_eq_zero_iff.1 hl)⟩
  · refine ⟨some ⟨g, 0, none⟩, c, h1, hc, ?_⟩
    have hr := h.row
    rw [h1] at hr
    refine .inr ⟨g, 0, rfl, fun i hi => ?_⟩
    have := World.ownsRow.cellAt hr i (by omega)
    rw [Nat.zero_add, this]
    simp [hi]
/-- One nought more. -/
theorem app_zero {w W3 wr : World} {B X : Nat} {D : InoD} {v : Value} {k : Nat} {zs : List Int} {s2 s3 : Value} (h : DXL w W3 wr B X D v k zs s2 s3) (hk : k ≤ 1000000) (hBw : B ≤ wr.heap.size) (ty : TypeId) :
    ∃ v' W', (Builtin.append_ #[22, 22] ty #[v, .slice (some ⟨wr.heap.size, 0, none⟩) 1 1]).run Tryz.prog (wr.alloc (.cells #[.int .u8 0] 5)) = .ok v' W' ∧ ∃ g' c', v' = .slice (some ⟨g', 0, none⟩) (k + 1) c' ∧ Blk W' X 66 #[.int .i64 D.ino, .int .i64 D.kind, .int .i64 D.links, v, s2, s3] ∧ DXL w W3 (W'.setCell ⟨X, 3, none⟩ (.slice (some ⟨g', 0, none⟩) (k + 1) c')) B X D (.slice (some ⟨g', 0, none⟩) (k + 1) c') (k + 1) (zs ++ [0]) s2 s3 := by
  obtain ⟨i0, hi, hz0, hz1, hz2⟩ := info_parts Tryz.info5
  obtain ⟨v', W', h1, h2, h3, _, h5⟩ := run_append_own_at (P := Tryz.prog) (wr.alloc (.cells #[.int .u8 0] 5)) B 22 ty 5 i0 (.int .u8 0) 1 1 Tryz.underlying22 hi hz0 hz1 hz2 rfl (by decide) v k (zs.map (Value.int .u8)) (World.ownsRow.alloc h.row _) ⟨wr.heap.size, 0, none⟩ 1 1 [.int .u8 0] rfl (by
    intro j u hj
    rw [add_at]
    match j, hj with
    | 0, hj => simp at hj; subst hj; exact (Blk.new wr 5 #[.int .u8 0]).cell 0
    | j + 1, hj => simp at hj) (by
    intro u hu
    simp at hu
    subst hu
    rfl) (by unfold maxLen; omega) (by omega) (by simp; omega)
  refine ⟨v', W', h1, ?_⟩
  rcases h2.2 with ⟨_, h0⟩ | ⟨g', c', cur, rfl, hBg, hcur, rest⟩
  · omega
  · have hne : ∀ g, v.ownBlock = some g → X ≠ g := fun g hg => h.ne hg
    have zx1 := h.x.alloc (.cells #[.int .u8 0] 5)
    have zx2 : Blk W' X 66 #[.int .i64 D.ino, .int .i64 D.kind, .int .i64 D.links, v, s2, s3] := (h3.block X zx1.lt (fun e => (hne X e.symm) rfl)).trans zx1
    have hXg : X ≠ g' := by
      rintro rfl
      have h6 : W'.heap[X]? = _ := zx2
      rw [hcur] at h6
      simp at h6
    refine ⟨g', c', rfl, zx2, ⟨zx2.set 3 _, ?_, ?_, ?_, h.hX, h.hB⟩⟩
    · rw [List.map_append]
      exact row_kept h2 (gr_setC W' X 3 _) (fun m hm e => by simp [Value.ownBlock] at hm; simp at e; omega)
    · refine kpT_trans h.kp (kpT_trans (KpT.below ((Below.refl _ wr).alloc (Nat.le_refl _) (.cells #[.int .u8 0] 5)) _) (kpT_trans (KpT.row h3 (World.ownsRow.alloc h.row _) (by decide)) (KpT.grown (gr_setC W' X 3 _) zx2 (by decide))))
    · have b1 := h.below.alloc h.below.size (.cells #[.int .u8 0] 5)
      have b2 := b1.grown h3 b1.size (fun g hg => by have := (row_at h.row hg).1; have := h.hB; omega)
      exact b2.setCell (p := ⟨X, 3, none⟩) h.hX _
/-- One byte written. -/
theorem DXL.put {w W3 wr : World} {B X g c : Nat} {D : InoD} {k : Nat} {zs : List Int} {s2 s3 : Value} (h : DXL w W3 wr B X D (.slice (some ⟨g, 0, none⟩) k c) k zs s2 s3) (i : Nat) (z : Int) : DXL w W3 (wr.setCell ⟨g, i, none⟩ (.int .u8 z)) B X D (.slice (some ⟨g, 0, none⟩) k c) k (zs.set i z) s2 s3 := by
  have hne := h.ne (g := g) rfl
  have hr := (World.ownsRow.stored h.row i (.int .u8 z)).1
  obtain ⟨hBg, cur, hcur⟩ := row_at h.row (g := g) rfl
  refine ⟨h.x.other hne i _, by rw [List.map_set]; exact hr, kpT_trans h.kp (KpT.row (v := .slice (some ⟨g, 0, none⟩) k c) (gr_setC wr g i _) h.row (by decide)), h.below.setCell (p := ⟨g, i, none⟩) (by have := h.hB; show w.heap.size ≤ g; omega) _, h.hX, h.hB⟩
theorem row_raise {B : Nat} {w : World} {e : TypeId} {s n : Nat} {v : Value} {xs : List Value} (h : w.ownsRow 0 e s v n xs) (hB : ∀ g, v.ownBlock = some g → B ≤ g) : w.ownsRow B e s v n xs := by
  refine ⟨h.1, ?_⟩
  rcases h.2 with h' | ⟨g, cap, cur, rfl, _, rest⟩
  · exact .inl h'
  · exact .inr ⟨g, cap, cur, rfl, hB g rfl, rest⟩
/-- The inode as it is in its box can be read. -/
theorem inoRd_kp {W3 wr : World} {lo hi : Nat} {D : InoD} {b1 b2 b3 : Option Addr} {d1 d2 d3 : Nat} (kp : KpT W3 wr [26, 86, 89]) (hG : InoG W3 lo hi D (.slice b1 D.data.length d1) (.slice b2 D.ents.length d2) (.slice b3 D.attrs.length d3)) {a : Option Addr} {ys : List Int} (hr : Rd wr a ys) (hb : Byt ys) : InoRd wr { D with data := ys } a b2 b3 := by
  have f : ∀ {e : TypeId} {v : Value} {n : Nat} {ps : List VP}, OwnQ e wr v n ps → ∃ a c, v = .slice a n c ∧ RdP wr a ps := fun {e v n ps} h => by
    rcases h.cases with ⟨rfl, rfl, rfl⟩ | ⟨g, c, rfl, ho⟩
    · exact ⟨none, 0, rfl, .inl rfl⟩
    · exact ⟨_, c, rfl, ho.rd⟩
  obtain ⟨_, _, e2, r2⟩ := f (row_kp hG.ents kp (by decide))
  obtain ⟨_, _, e3, r3⟩ := f (row_kp hG.attrs kp (by decide))
  simp only [Value.slice.injEq, true_and] at e2 e3
  refine ⟨hr, hb, ?_, ?_⟩
  · rw [e2.1]
    exact r2
  · rw [e3.1]
    exact r3
theorem DXL.rdX {w W3 wr : World} {B X : Nat} {D : InoD} {a : Option Addr} {c : Nat} {k : Nat} {zs : List Int} {s2 s3 : Value} (h : DXL w W3 wr B X D (.slice a k c) k zs s2 s3) (hr : Rd wr a zs) (u : Value) : Rd (wr.setCell ⟨X, 3, none⟩ u) a zs := by
  refine Rd.kept hr (gr_setC wr X 3 _) (fun _ b off e => ?_)
  subst e
  rcases h.row.2 with ⟨h1, _⟩ | ⟨g, c', cur, h1, _⟩
  · simp at h1
  · have hg : b = g := by simp at h1; exact h1.1.1
    have := h.ne (g := g) (by rw [h1]; rfl)
    omega
theorem rd_take {w : World} {a : Option Addr} {zs : List Int} (h : Rd w a zs) (k : Nat) : Rd w a (zs.take k) := by
  rcases h with h | ⟨b, off, rfl, hc⟩
  · exact .inl (by rw [h]; simp)
  · refine .inr ⟨b, off, rfl, fun i hi => ?_⟩
    simp only [List.length_take] at hi
    rw [hc i (by omega)]
    have : i < k := by omega
    simp [this]
theorem byt_zero {zs : List Int} (h : Byt zs) (m : Nat) : Byt (zs ++ List.replicate m 0) := fun z hz => by
  rcases List.mem_append.1 hz with hz | hz
  · exact h z hz
  · have := List.eq_of_mem_replicate hz
    omega
end

section
open Go.RowKit
def cutD (d : List Int) (k : Nat) : List Int := (d ++ List.replicate (k - d.length) 0).take k
def truncD (nx : Int) (ds : List InoD) (s : ByteArray) (k : Int) : List InoD × Int :=
  if treeD nx ds = false ∨ (splitOf s.data.toList).isSome = false ∨ ¬ (0 ≤ k ∧ k ≤ 100) then (ds, 1)
  else if (fileD ds s).2 ≠ 0 then (ds, (fileD ds s).2)
  else (setD ds { (fileD ds s).1 with data := cutD (fileD ds s).1.data k.toNat }, 0)
theorem rep_snoc (d : List Int) (j : Nat) : (d ++ List.replicate j 0) ++ [0] = d ++ List.replicate (j + 1) 0 := by
  rw [List.append_assoc, ← List.replicate_succ']
set_option maxRecDepth 100000 in
set_option maxHeartbeats 8000000 in
theorem truncS (a : Option Addr) (n cap : Nat) (nx : Int) (rs : List InoR) (s : ByteArray) (kt : Int) (w : World) (ht : TR w a n rs) (hs : s.size ≤ 4000000) :
    Calls Tryz.prog 53 #[.agg #[.slice a n cap, .int .i64 nx], .string s, .int .i64 kt] w fun e w' => TabC w nx (truncD nx (rs.map InoR.D) s kt).1 (truncD nx (rs.map InoR.D) s kt).2 e w' := by
  have B0 : Below w.heap.size w ((w.alloc (.cells #[.slice a n cap, .int .i64 nx] 26)).alloc (.cells #[.slice none 0 0, .int .i64 0] 26)) := ((Below.refl _ w).alloc (Nat.le_refl _) _).alloc (by simp) _
  have zT : Blk ((w.alloc (.cells #[.slice a n cap, .int .i64 nx] 26)).alloc (.cells #[.slice none 0 0, .int .i64 0] 26)) w.heap.size 26 #[.slice a n cap, .int .i64 nx] := (Blk.new w _ _).alloc _
  have zR := Blk.new (w.alloc (.cells #[.slice a n cap, .int .i64 nx] 26)) 26 #[.slice none 0 0, .int .i64 0]
  simp only [World.size_alloc] at zR
  obtain ⟨ds, hds⟩ : ∃ ds, rs.map InoR.D = ds := ⟨_, rfl⟩
  have hdn : ds.length = n := by rw [← hds, List.length_map, ht.len]
  have hp : Hid (∀ (e : Ending) (w' : World) (l : List InoD) (q : Int), truncD nx ds s kt = (l, q) → TabC w nx l q e w' → TabC w nx (truncD nx ds s kt).1 (truncD nx ds s kt).2 e w') := fun e w' l q h hh => by rw [h]; exact hh
  rw [hds]
  generalize TabC w nx (truncD nx ds s kt).1 (truncD nx ds s kt).2 = P at hp ⊢
  have hmd : truncD nx ds s kt = truncD nx ds s kt := rfl
  conv at hmd => rhs; unfold truncD
  have HDS : Hid _ := hds
  have HDN : Hid _ := hdn
  have HT : Hid _ := ht
  have HSm : Hid (∀ F ∈ ds, InoSmall F) := by
    intro F hF
    exact ht.smallD F (by rw [hds]; exact hF)
  have hn1 := ht.n
  have href : Hid (∀ (W : World) (q : Int), Below w.heap.size w W → Blk W (w.heap.size + 1) 26 #[.slice none 0 0, .int .i64 0] → truncD nx ds s kt = (ds, q) → Calls Tryz.prog 63 #[.agg #[.slice a n cap, .int .i64 nx]] W fun e V => ∃ (b : Option Addr) (m cc : Nat), e = .returned (.agg #[.slice b m cc, .int .i64 nx]) ∧ Blk V (w.heap.size + 1) 26 #[.slice none 0 0, .int .i64 0] ∧ P (.returned (.tuple #[.agg #[.slice b m cc, .int .i64 nx], .int .i64 q])) ((V.setCell ⟨w.heap.size + 1, 0, none⟩ (.slice b m cc)).setCell ⟨w.heap.size + 1, 1, none⟩ (.int .i64 nx))) := fun W q hb hz hq => by
    have hT := HT.out.keep hb
    refine (l4CopyS a n cap nx rs W hT.len hT.n hT.small hT.rd).mono fun e V h => ?_
    obtain ⟨b, m, cc, h1, h2, h3⟩ := copyC h hb (Nat.le_succ _) hz
    rw [HDS.out] at h3
    exact ⟨b, m, cc, h1, h2, hp.out _ _ _ _ hq (h3 q)⟩
  have hset : Hid (∀ (W V : World) (v : Value) (l : List InoD), TabAt W nx l v V → Below w.heap.size w W → Blk W (w.heap.size + 1) 26 #[.slice none 0 0, .int .i64 0] → truncD nx ds s kt = (l, 0) → ∃ (b : Option Addr) (m cc : Nat), v = .agg #[.slice b m cc, .int .i64 nx] ∧ Blk V (w.heap.size + 1) 26 #[.slice none 0 0, .int .i64 0] ∧ P (.returned (.tuple #[.agg #[.slice b m cc, .int .i64 nx], .int .i64 0])) ((V.setCell ⟨w.heap.size + 1, 0, none⟩ (.slice b m cc)).setCell ⟨w.heap.size + 1, 1, none⟩ (.int .i64 nx))) := fun W V v l h hb hz hq => by
    obtain ⟨b, cc, js, rfl, hQ, hbV⟩ := h
    refine ⟨b, js.length, cc, rfl, hz.keep hbV, hp.out _ _ _ _ hq ?_⟩
    have := hQ.boxed (hb.trans (hbV.mono hb.size)) (R := w.heap.size + 1) (by omega) hz.lt (.slice b js.length cc) (.int .i64 nx)
    exact ⟨b, cc, js, rfl, this.1, this.2⟩
  go_enter Tryz.func53, Tryz.ntmps53
  go_wp2_with fail
  obtain ⟨W0, hW0⟩ : ∃ W, (w.alloc (.cells #[.slice a n cap, .int .i64 nx] 26)).alloc (.cells #[.slice none 0 0, .int .i64 0] 26) = W := ⟨_, rfl⟩
  rw [hW0] at B0 zT zR ⊢
  clear hW0 ht hds hdn
  have hsp := splitB s W0 hs
  refine hsp.mono ?_
  rintro e w1 ⟨sa, sm, sc, rfl, bb1⟩
  clear hsp
  generalize (splitOf s.data.toList).isSome = K1 at hmd ⊢
  have hB0 := B0
  have zr0 := zR
  have zt0 := zT
  clear B0 zR zT
  have hB1 := hB0.trans (bb1.mono hB0.size)
  have zr1 := zr0.keep bb1
  have zt1 := zt0.keep bb1
  clear hB0 zr0 zt0 bb1

  have t0 := zt1.cell 0
  have t1 := zt1.cell 1
  simp at t0 t1
  have hcT := treeS a n cap nx rs w1 (HT.out.keep hB1)
  rw [HDS.out] at hcT
  go_wp2_with fail
  (with_reducible refine hcT.mono ?_)
  rintro e w2 ⟨rfl, bb2⟩
  clear hcT t0 t1
  have hB2 := hB1.trans (bb2.mono hB1.size)
  have zr2 := zr1.keep bb2
  have zt2 := zt1.keep bb2
  clear hB1 zr1 zt1 bb2

  have t0 := zt2.cell 0
  have t1 := zt2.cell 1
  simp at t0 t1
  cases htr : treeD nx ds with
  | false =>
    rw [htr, if_pos (.inl rfl)] at hmd
    have hcC := href.out w2 1 hB2 zr2 hmd
    clear hmd zr2 zt2 htr
    go_wp2_with fail
    (with_reducible refine hcC.mono ?_)
    rintro e wz ⟨b, m, cc, rfl, zz, hPz⟩
    have HPP : Hid _ := hPz
    have HZZ : Hid _ := zz
    have rr0 := zz.cell 0
    have rr1 := zz.cell 1
    have rf0 := zz.frozen 0
    have rf1 := zz.frozen 1
    simp at rr0 rr1
    clear zz hPz hcC t0 t1
    go_wp2
    have zf := blk2 HZZ.out (.slice b m cc) (.int .i64 nx)
    have dd0 := zf.cell 0
    have dd1 := zf.cell 1
    simp at dd0 dd1
    refine bodyPost_ret (v := .tuple #[.agg #[.slice b m cc, .int .i64 nx], .int .i64 1]) (by simp [results, Tryz.f53, go_sem, dd0, dd1]) rfl ?_
    exact HPP.out

  | true =>
    have hok := tabD_ok (treeD_parts htr).1
    have HOK : Hid _ := hok
    rw [htr] at hmd
    clear htr hok
    cases K1 with
    | false =>
      rw [if_pos (.inr (.inl rfl))] at hmd
      have hcC := href.out w2 1 hB2 zr2 hmd
      clear hmd zr2 zt2
      go_wp2_with fail
      (with_reducible refine hcC.mono ?_)
      rintro e wz ⟨b, m, cc, rfl, zz, hPz⟩
      have HPP : Hid _ := hPz
      have HZZ : Hid _ := zz
      have rr0 := zz.cell 0
      have rr1 := zz.cell 1
      have rf0 := zz.frozen 0
      have rf1 := zz.frozen 1
      simp at rr0 rr1
      clear zz hPz hcC t0 t1
      go_wp2
      have zf := blk2 HZZ.out (.slice b m cc) (.int .i64 nx)
      have dd0 := zf.cell 0
      have dd1 := zf.cell 1
      simp at dd0 dd1
      refine bodyPost_ret (v := .tuple #[.agg #[.slice b m cc, .int .i64 nx], .int .i64 1]) (by simp [results, Tryz.f53, go_sem, dd0, dd1]) rfl ?_
      exact HPP.out

    | true =>
      have hcN := l1In_any kt 0 100 w2
      go_wp2_with fail
      (with_reducible refine hcN.mono ?_)
      rintro e w3 ⟨rfl, hw3⟩
      obtain rfl := hw3.symm
      clear hcN
      by_cases hin : 0 ≤ kt ∧ kt ≤ 100
      · have hinb : (decide (0 ≤ kt) && decide (kt ≤ 100)) = true := by simp [hin.1, hin.2]
        rw [hinb]
        rw [if_neg (by simp [hin.1, hin.2])] at hmd
        have hcS := fileS a n cap nx rs s w2 (HT.out.keep hB2) hs
        rw [HDS.out] at hcS
        obtain ⟨D, c, hDc⟩ : ∃ D c, fileD ds s = (D, c) := ⟨_, _, rfl⟩
        rw [hDc] at hmd hcS
        dsimp only at hmd hcS
        have HDC : Hid _ := hDc
        have hrl : w.heap.size + 1 < w2.heap.size := zr2.lt
        clear hDc hinb
        go_wp2_with fail
        (with_reducible refine hcS.mono ?_)
        rintro e w4 ⟨b1, d1, b2, d2, b3, d3, rfl, g4, bb4⟩
        clear hcS t0 t1
        have hs34 := bb4.size
        have zr4 := (zr2.keep bb4).alloc (.cells #[.int .i64 D.ino, .int .i64 D.kind, .int .i64 D.links, .slice b1 D.data.length d1, .slice b2 D.ents.length d2, .slice b3 D.attrs.length d3] 66)
        have zt4 := (zt2.keep bb4).alloc (.cells #[.int .i64 D.ino, .int .i64 D.kind, .int .i64 D.links, .slice b1 D.data.length d1, .slice b2 D.ents.length d2, .slice b3 D.attrs.length d3] 66)
        have hb4' := hB2.trans (bb4.mono hB2.size)
        have hB4 := hb4'.alloc hb4'.size (.cells #[.int .i64 D.ino, .int .i64 D.kind, .int .i64 D.links, .slice b1 D.data.length d1, .slice b2 D.ents.length d2, .slice b3 D.attrs.length d3] 66)
        have zX := Blk.new w4 66 #[.int .i64 D.ino, .int .i64 D.kind, .int .i64 D.links, .slice b1 D.data.length d1, .slice b2 D.ents.length d2, .slice b3 D.attrs.length d3]
        have g5 := g4.keep (Nat.le_refl _) ((Below.refl _ w4).alloc (Nat.le_refl _) (.cells #[.int .i64 D.ino, .int .i64 D.kind, .int .i64 D.links, .slice b1 D.data.length d1, .slice b2 D.ents.length d2, .slice b3 D.attrs.length d3] 66))
        have hlt : w4.heap.size < (w4.alloc (.cells #[.int .i64 D.ino, .int .i64 D.kind, .int .i64 D.links, .slice b1 D.data.length d1, .slice b2 D.ents.length d2, .slice b3 D.attrs.length d3] 66)).heap.size := by simp
        obtain ⟨W4, hW4⟩ : ∃ W, w4.alloc (.cells #[.int .i64 D.ino, .int .i64 D.kind, .int .i64 D.links, .slice b1 D.data.length d1, .slice b2 D.ents.length d2, .slice b3 D.attrs.length d3] 66) = W := ⟨_, rfl⟩
        rw [hW4] at zr4 zt4 hB4 zX g5 hlt
        have t0 := zt4.cell 0
        have t1 := zt4.cell 1
        simp at t0 t1
        clear hb4' g4 bb4 hB2 zr2 zt2
        by_cases hc0 : c = 0
        · subst hc0
          rw [if_neg (by simp)] at hmd
          obtain ⟨N, rfl⟩ : ∃ N : Nat, kt = (N : Int) := ⟨kt.toNat, by omega⟩
          rw [Int.toNat_natCast] at hmd
          have hN : N ≤ 100 := by omega
          have hDs : InoSmall D := HSm.out D (fileD_mem HDC.out).1
          have hD1 := (ok_parts (HOK.out.2.2.2.2.1 D (fileD_mem HDC.out).1).1).2.2.2.2.1
          have dx0 : DXL w W4 W4 w2.heap.size w4.heap.size D (.slice b1 D.data.length d1) D.data.length (D.data ++ List.replicate 0 0) (.slice b2 D.ents.length d2) (.slice b3 D.attrs.length d3) := ⟨zX, by rw [List.replicate_zero, List.append_nil]; exact row_raise g5.data (fun g hg => (g5.within g (.inl hg)).1), fun _ _ _ _ _ _ => rfl, hB4, by omega, by omega⟩
          have HMD : Hid _ := hmd
          have HG5 : Hid _ := g5
          have HZ4 : Hid _ := zr4
          have HT4 : Hid _ := zt4
          have hws : w2.heap.size ≤ W4.heap.size := by omega
          obtain ⟨X, hX⟩ : ∃ X, w4.heap.size = X := ⟨_, rfl⟩
          have HX : Hid _ := hX
          have hXl : w2.heap.size ≤ X := by omega
          rw [hX] at dx0 hlt
          clear hmd zr4 zt4 hB4 g5 zX t0 t1
          go_wp2
          clear hX
          go_loopw [42] (fun _ wr => ∃ (k : Nat) (v : Value), D.data.length ≤ k ∧ k ≤ D.data.length + N ∧ (k ≤ N ∨ k = D.data.length) ∧ DXL w W4 wr w2.heap.size X D v k (D.data ++ List.replicate (k - D.data.length) 0) (.slice b2 D.ents.length d2) (.slice b3 D.attrs.length d3) ∧ w2.heap.size ≤ wr.heap.size) (fun _ wr => N - lenAt wr X)
          case atStart => exact ⟨D.data.length, _, Nat.le_refl _, by omega, .inr rfl, by rw [Nat.sub_self]; exact dx0, hws⟩
          case round =>
            obtain ⟨k, v, hk1, hk2, hk3, dx, hwr⟩ := hrel
            clear dx0
            obtain ⟨va, vc, rfl, hkc, hrd⟩ := dx.form
            have x3 := dx.x.cell 3
            have xf := dx.x.frozen 3
            simp at x3
            by_cases hkN : k < N
            · have hki : (k : Int) < (N : Int) := by omega
              have hap := app_zero dx (by omega) hwr
              have hlk : lenAt wr X = k := by unfold lenAt; rw [x3]
              clear hrd
              go_wp2_with (at_builtin; refine wpList_run _ rfl (.tmp 48) (.tmp 49) 22 rfl (.slice va k vc) (.slice (some ⟨wr.heap.size, 0, none⟩) 1 1) rfl rfl _ hap ?_; rintro v5 V5 ⟨g6, c6, rfl, zx6, dx6⟩; have y3 := zx6.cell 3; have yf := zx6.frozen 3; simp at y3)
              have hz6 := dx6.x.cell 3
              simp at hz6
              have hl6 : lenAt (V5.setCell ⟨X, 3, none⟩ (.slice (some ⟨g6, 0, none⟩) (k + 1) c6)) X = k + 1 := by unfold lenAt; rw [hz6]
              have hsz : w2.heap.size ≤ (V5.setCell ⟨X, 3, none⟩ (.slice (some ⟨g6, 0, none⟩) (k + 1) c6)).heap.size := by
                have := dx6.x.lt
                omega
              have HD6 : Hid _ := dx6
              have HL6 : Hid _ := hl6
              have HLK : Hid _ := hlk
              clear hap dx dx6 zx6 hz6 hl6 hlk x3 xf y3 yf
              go_roundw
              all_goals first
                | (case rel => exact ⟨k + 1, _, by omega, by omega, .inl (by omega), by rw [show k + 1 - D.data.length = (k - D.data.length) + 1 by omega, ← rep_snoc]; exact HD6.out, hsz⟩)
                | (case rel => (repeat apply Exists.intro); exact ⟨⟨k + 1, _, by omega, by omega, .inl (by omega), by rw [show k + 1 - D.data.length = (k - D.data.length) + 1 by omega, ← rep_snoc]; exact HD6.out, hsz⟩, rfl⟩)
                | (case measure => rw [HL6.out, HLK.out]; omega)
                | fail
            · have hki : ¬ (k : Int) < (N : Int) := by omega
              have hkd : k - D.data.length = N - D.data.length := by omega
              have hNc : (N : Int) ≤ (vc : Int) := by omega
              have hN0 : (0 : Int) ≤ (N : Int) := by omega
              have hNk : N ≤ vc := by omega
              have zXV : Blk (wr.setCell ⟨X, 3, none⟩ (.slice va N vc)) X 66 #[.int .i64 D.ino, .int .i64 D.kind, .int .i64 D.links, .slice va N vc, .slice b2 D.ents.length d2, .slice b3 D.attrs.length d3] := dx.x.set 3 _
              have kpV := kpT_trans dx.kp (KpT.grown (gr_setC wr X 3 (.slice va N vc)) dx.x (by decide))
              have rdV : Rd (wr.setCell ⟨X, 3, none⟩ (.slice va N vc)) va (D.data ++ List.replicate (N - D.data.length) 0) := by
                rw [← hkd]
                exact dx.rdX hrd _
              have hbz : Byt (D.data ++ List.replicate (N - D.data.length) 0) := byt_zero (HG5.out.byt) _
              have hBV : Below w.heap.size w (wr.setCell ⟨X, 3, none⟩ (.slice va N vc)) := dx.below.setCell (p := ⟨X, 3, none⟩) dx.hX _
              have zrV : Blk (wr.setCell ⟨X, 3, none⟩ (.slice va N vc)) (w.heap.size + 1) 26 #[.slice none 0 0, .int .i64 0] := Blk.kp HZ4.out kpV (by decide)
              have ztV : Blk (wr.setCell ⟨X, 3, none⟩ (.slice va N vc)) w.heap.size 26 #[.slice a n cap, .int .i64 nx] := Blk.kp HT4.out kpV (by decide)
              obtain ⟨F, hF⟩ : ∃ F, ({ D with data := cutD D.data N } : InoD) = F := ⟨_, rfl⟩
              have hFr : InoRd (wr.setCell ⟨X, 3, none⟩ (.slice va N vc)) F va b2 b3 := by
                rw [← hF]
                exact inoRd_kp kpV HG5.out (rd_take rdV N) (fun z hz => hbz z (List.mem_of_mem_take hz))
              have hFl : N = F.data.length := by
                rw [← hF]
                show N = (cutD D.data N).length
                unfold cutD
                simp
                omega
              have hFs : InoSmall F := by
                refine ⟨by omega, ?_, ?_, ?_, ?_⟩
                · rw [← hF]; exact hDs.ents
                · rw [← hF]; exact hDs.attrs
                · rw [← hF]; exact hDs.entsz
                · rw [← hF]; exact hDs.attrsz
              have e2 : D.ino = F.ino ∧ D.kind = F.kind ∧ D.links = F.links ∧ D.ents.length = F.ents.length ∧ D.attrs.length = F.attrs.length := by rw [← hF]; exact ⟨rfl, rfl, rfl, rfl, rfl⟩
              have HMF : Hid (truncD nx ds s (N : Int) = (setD ds F, 0)) := by show _ = _; rw [HMD.out, hF]
              have hcF := setT a n cap nx rs F va b2 b3 vc d2 d3 (wr.setCell ⟨X, 3, none⟩ (.slice va N vc)) (HT.out.keep hBV) hFs hFr
              rw [HDS.out, ← e2.1, ← e2.2.1, ← e2.2.2.1, ← hFl, ← e2.2.2.2.1, ← e2.2.2.2.2] at hcF
              obtain ⟨j0, j1, j2, j3, j4, j5⟩ := zXV.six
              have p0 := ztV.cell 0
              have p1 := ztV.cell 1
              simp at p0 p1
              obtain ⟨V8, hV8⟩ : ∃ W, wr.setCell ⟨X, 3, none⟩ (.slice va N vc) = W := ⟨_, rfl⟩
              rw [hV8] at hcF hBV zrV j0 j1 j2 j3 j4 j5 p0 p1
              have HBW : Hid _ := hBV
              have HZW : Hid _ := zrV
              clear dx hrd zXV kpV rdV hbz hBV zrV ztV hF hFr hFl hFs e2 HMD
              go_wp2_with fail
              (with_reducible refine hcF.mono ?_)
              rintro e wz ⟨v, rfl, tAz⟩
              obtain ⟨b, m, cc, rfl, zz, hPz⟩ := hset.out _ _ _ _ tAz HBW.out HZW.out HMF.out
              have HPP : Hid _ := hPz
              have HZZ : Hid _ := zz
              have rr0 := zz.cell 0
              have rr1 := zz.cell 1
              have rf0 := zz.frozen 0
              have rf1 := zz.frozen 1
              simp at rr0 rr1
              clear zz hPz hcF tAz x3 xf j0 j1 j2 j3 j4 j5 p0 p1
              go_wp2
              have zf := blk2 HZZ.out (.slice b m cc) (.int .i64 nx)
              have dd0 := zf.cell 0
              have dd1 := zf.cell 1
              simp at dd0 dd1
              refine bodyPost_ret (v := .tuple #[.agg #[.slice b m cc, .int .i64 nx], .int .i64 0]) (by simp [results, Tryz.f53, go_sem, dd0, dd1]) rfl ?_
              exact HPP.out

        · rw [if_pos hc0] at hmd
          have hcC := href.out W4 c hB4 zr4 hmd
          have hcb : (c != 0) = true := by simpa using hc0
          have hcb' : (c == 0) = false := by simpa using hc0
          clear hmd zr4 zt4 hB4 zX g5
          go_wp2_with fail
          (with_reducible refine hcC.mono ?_)
          rintro e wz ⟨b, m, cc, rfl, zz, hPz⟩
          have HPP : Hid _ := hPz
          have HZZ : Hid _ := zz
          have rr0 := zz.cell 0
          have rr1 := zz.cell 1
          have rf0 := zz.frozen 0
          have rf1 := zz.frozen 1
          simp at rr0 rr1
          clear zz hPz hcC t0 t1
          go_wp2
          have zf := blk2 HZZ.out (.slice b m cc) (.int .i64 nx)
          have dd0 := zf.cell 0
          have dd1 := zf.cell 1
          simp at dd0 dd1
          refine bodyPost_ret (v := .tuple #[.agg #[.slice b m cc, .int .i64 nx], .int .i64 c]) (by simp [results, Tryz.f53, go_sem, dd0, dd1]) rfl ?_
          exact HPP.out

      · have hinb : (decide (0 ≤ kt) && decide (kt ≤ 100)) = false := by
          by_cases h0 : 0 ≤ kt
          · have : ¬ kt ≤ 100 := fun h => hin ⟨h0, h⟩
            simp [h0, this]
          · simp [h0]
        rw [hinb]
        rw [if_pos (.inr (.inr hin))] at hmd
        have hcC := href.out w2 1 hB2 zr2 hmd
        clear hmd zr2 zt2
        go_wp2_with fail
        (with_reducible refine hcC.mono ?_)
        rintro e wz ⟨b, m, cc, rfl, zz, hPz⟩
        have HPP : Hid _ := hPz
        have HZZ : Hid _ := zz
        have rr0 := zz.cell 0
        have rr1 := zz.cell 1
        have rf0 := zz.frozen 0
        have rf1 := zz.frozen 1
        simp at rr0 rr1
        clear zz hPz hcC t0 t1
        go_wp2
        have zf := blk2 HZZ.out (.slice b m cc) (.int .i64 nx)
        have dd0 := zf.cell 0
        have dd1 := zf.cell 1
        simp at dd0 dd1
        refine bodyPost_ret (v := .tuple #[.agg #[.slice b m cc, .int .i64 nx], .int .i64 1]) (by simp [results, Tryz.f53, go_sem, dd0, dd1]) rfl ?_
        exact HPP.out
end
end Go.Proofs.YtnfplimhhjpbkaaGreatDoor
