/-
  Joined: DropW, SetM, SetQ.
-/
import Derived.Test.YtnfplimhhjpbkaaGreatDoorJ15T
namespace Go.Proofs.YtnfplimhhjpbkaaGreatDoor
section
open Go.RowKit
theorem DQT.outs {B : Nat} {W W' : World} {v : Value} {ds : List InoR} {js : List InoJ} {Lo Hi : Nat} (h : DQT B W v ds js) (k : Out Lo Hi W W') (hd : Hi ≤ B) : DQT B W' v ds js := by
  refine ⟨h.ds, ?_, ⟨fun i j e => InoG.kept (h.jq.G i j e) (fun b h1 h2 => k.block b (by have := h.jq.lo i j e; omega) (by have := h.jq.lo i j e; omega)), fun i j e => by have := h.jq.lo i j e; have := k.size; omega, h.jq.ord⟩, h.ap⟩
  refine ⟨h.row.1, h.row.2.imp id (fun ⟨g, c, cur, h1, h2, h3, rest⟩ => ⟨g, c, cur, h1, h2, ?_, rest⟩)⟩
  rw [k.block g (Array.getElem?_eq_some_iff.1 h3).1 (by omega)]
  exact h3
theorem DQT.cases {B : Nat} {W : World} {a : Option Addr} {n c : Nat} {ds : List InoR} {js : List InoJ} (h : DQT B W (.slice a n c) ds js) (hn : js.length = n) : (a = none ∧ js = [] ∧ n = 0 ∧ c = 0) ∨ ∃ g, a = some ⟨g, 0, none⟩ ∧ B ≤ g ∧ OwnI W g n c (js.map InoJ.r) := by
  have hr := h.row
  rw [hn] at hr
  rcases hr.2 with ⟨h1, h2⟩ | ⟨g, c', cur, h1, h2, rest⟩
  · simp at h1
    obtain ⟨rfl, h3, rfl⟩ := h1
    exact .inl ⟨rfl, List.length_eq_zero_iff.1 (by omega), h3, rfl⟩
  · simp at h1
    obtain ⟨rfl, rfl⟩ := h1
    exact .inr ⟨g, rfl, h2, ⟨hr.1, .inr ⟨g, _, cur, rfl, Nat.zero_le _, rest⟩⟩⟩
theorem InoJ.G.rd {w : World} {j : InoJ} (h : j.G w) : j.r.rd w := by
  obtain ⟨a1, c1, a2, c2, a3, c3, e1, e2, e3, hr⟩ := InoG.form h
  simp [InoJ.v1] at e1
  simp [InoJ.v2] at e2
  simp [InoJ.v3] at e3
  unfold InoR.rd
  rw [e1.1, e2.1, e3.1]
  exact hr
theorem DQT.rd {B : Nat} {W : World} {a : Option Addr} {n c : Nat} {ds : List InoR} {js : List InoJ} (h : DQT B W (.slice a n c) ds js) (hn : js.length = n) : RdI W a (js.map InoJ.r) := by
  rcases h.cases hn with ⟨_, rfl, _, _⟩ | ⟨g, rfl, _, ho⟩
  · exact .inl rfl
  · refine OwnI.rds ho (fun r hr => ?_)
    obtain ⟨j, hj, rfl⟩ := List.mem_map.1 hr
    obtain ⟨i, hi⟩ := List.getElem?_of_mem hj
    exact (h.jq.G i j hi).rd
theorem DQT.small {B : Nat} {W : World} {v : Value} {ds : List InoR} {js : List InoJ} (h : DQT B W v ds js) (hs : ∀ r ∈ ds, InoSmall r.D) : ∀ r ∈ js.map InoJ.r, InoSmall r.D := by
  intro r hr
  have h1 : r.D ∈ (js.map InoJ.r).map InoR.D := List.mem_map_of_mem hr
  rw [h.ds] at h1
  obtain ⟨q, hq, hqr⟩ := List.mem_map.1 h1
  rw [← hqr]
  exact hs q hq
/-- A marked table, whose row may be nil. -/
def TV (W : World) (B T : Nat) (a : Option Addr) (n c : Nat) (js : List InoJ) : Prop := (a = none ∧ js = [] ∧ n = 0 ∧ c = 0) ∨ ∃ g w0, a = some ⟨g, 0, none⟩ ∧ ApJ g B T js ∧ TabL w0 W g n c B T 1 js n
theorem TV.keep {W W' : World} {B T : Nat} {a : Option Addr} {n c : Nat} {js : List InoJ} (h : TV W B T a n c js) (hT : T ≤ W.heap.size) (hb : Below W.heap.size W W') : TV W' B T a n c js :=
  h.imp id (fun ⟨g, w0, h1, h2, h3⟩ => ⟨g, w0, h1, h2, h3.keep h2 hT hb⟩)
/-- That the parts of a table lie apart, below T. -/
def ApV (T : Nat) (v : Value) (js : List InoJ) : Prop := (∀ (i : Nat) (j : InoJ), js[i]? = some j → j.hi ≤ T) ∧ ∀ g, v.ownBlock = some g → g < T
theorem DQT.apV {B : Nat} {W : World} {v : Value} {ds : List InoR} {js : List InoJ} (h : DQT B W v ds js) : ApV W.heap.size v js := ⟨fun i j e => (h.jq.lo i j e).2.2, fun g hg => (World.ownsRow.lt h.row g hg).2⟩
theorem DQT.outsLow {B T : Nat} {W W' : World} {v : Value} {ds : List InoR} {js : List InoJ} {Lo Hi : Nat} (h : DQT B W v ds js) (ap : ApV T v js) (k : Out Lo Hi W W') (hd : T ≤ Lo) : DQT B W' v ds js := by
  refine ⟨h.ds, ?_, ⟨fun i j e => InoG.kept (h.jq.G i j e) (fun b h1 h2 => k.block b (by have := h.jq.lo i j e; omega) (by have := ap.1 i j e; omega)), fun i j e => by have := h.jq.lo i j e; have := k.size; omega, h.jq.ord⟩, h.ap⟩
  refine ⟨h.row.1, h.row.2.imp id (fun ⟨g, c, cur, h1, h2, h3, rest⟩ => ⟨g, c, cur, h1, h2, ?_, rest⟩)⟩
  have := ap.2 g (by rw [h1]; rfl)
  rw [k.block g (Array.getElem?_eq_some_iff.1 h3).1 (by omega)]
  exact h3
set_option maxHeartbeats 800000 in
theorem markTab_nil (nx : Int) (W : World) : Calls Tryz.prog 45 #[.agg #[.slice none 0 0, .int .i64 nx], .int .i64 1] W fun e w' => e = .returned (.int .i64 1) ∧ Below W.heap.size W w' := by
  have hc : ∀ V : World, Calls Tryz.prog 95 #[.slice none 0 0, .int .i64 1] V fun e w' => e = .returned (.int .i64 1) ∧ Below V.heap.size V w' := by
    intro V
    go_enter Tryz.func95, Tryz.ntmps95
    go_wp2
    refine wp_loop_rounds 1 ?_; rw [rounds_succ]
    go_wp2
    go_ret
    exact ⟨rfl, Below.refl _ _⟩
  have b0 : Below W.heap.size W (W.alloc (.cells #[.slice none 0 0, .int .i64 nx] 26)) := (Below.refl _ W).alloc (Nat.le_refl _) _
  have HB : Hid _ := b0
  have hcc := hc (W.alloc (.cells #[.slice none 0 0, .int .i64 nx] 26))
  clear hc b0
  go_enter Tryz.func45, Tryz.ntmps45
  go_wp2_with fail
  refine hcc.mono ?_
  rintro e w1 ⟨rfl, b1⟩
  go_wp2
  go_ret
  exact ⟨rfl, HB.out.trans (b1.mono HB.out.size)⟩
set_option maxHeartbeats 800000 in
theorem heldTab_nil (nx : Int) (W : World) : Calls Tryz.prog 46 #[.agg #[.slice none 0 0, .int .i64 nx], .int .i64 1] W fun e w' => e = .returned (.int .i64 1) ∧ Below W.heap.size W w' := by
  have hc : ∀ V : World, Calls Tryz.prog 96 #[.slice none 0 0, .int .i64 1] V fun e w' => e = .returned (.int .i64 1) ∧ Below V.heap.size V w' := by
    intro V
    go_enter Tryz.func96, Tryz.ntmps96
    go_wp2
    refine wp_loop_rounds 1 ?_; rw [rounds_succ]
    go_wp2
    go_ret
    exact ⟨rfl, Below.refl _ _⟩
  have b0 : Below W.heap.size W (W.alloc (.cells #[.slice none 0 0, .int .i64 nx] 26)) := (Below.refl _ W).alloc (Nat.le_refl _) _
  have HB : Hid _ := b0
  have hcc := hc (W.alloc (.cells #[.slice none 0 0, .int .i64 nx] 26))
  clear hc b0
  go_enter Tryz.func46, Tryz.ntmps46
  go_wp2_with fail
  refine hcc.mono ?_
  rintro e w1 ⟨rfl, b1⟩
  go_wp2
  go_ret
  exact ⟨rfl, HB.out.trans (b1.mono HB.out.size)⟩
theorem heldV {B T : Nat} {W : World} {a : Option Addr} {n c : Nat} {js : List InoJ} (nx : Int) (hs : n ≤ 2000000) (hq : qAt 1 js n ≤ 9999990) (hn : js.length = n) (hT : T ≤ W.heap.size) (h : TV W B T a n c js) :
    Calls Tryz.prog 46 #[.agg #[.slice a n c, .int .i64 nx], .int .i64 1] W fun e w' => e = .returned (.int .i64 ((qAt 1 js n : Nat) : Int)) ∧ Below W.heap.size W w' := by
  rcases h with ⟨rfl, rfl, rfl, rfl⟩ | ⟨g, w0, rfl, ap, hL⟩
  · exact heldTab_nil nx W
  · exact heldTab_any w0 nx g n c B T 1 js W hn (Nat.le_refl _) hs hq ap hT hL
theorem DQT.cong {B : Nat} {W : World} {v : Value} {ds ds' : List InoR} {js : List InoJ} (h : DQT B W v ds js) (he : ds.map InoR.D = ds'.map InoR.D) : DQT B W v ds' js := ⟨by rw [h.ds, he], h.row, h.jq, h.ap⟩
end

section
open Go.RowKit
/-- Where a number that is not there belongs. -/
def placeOf (rs : List InoR) (x : Int) : Nat := rs.findIdx fun r => decide (x < r.D.ino)
theorem placeOf_le (rs : List InoR) (x : Int) : placeOf rs x ≤ rs.length := List.findIdx_le_length
theorem placeOf_is {rs : List InoR} {x : Int} {k : Nat} {r : InoR} (hk : rs[k]? = some r) (hx : x < r.D.ino) (ha : ∀ (j : Nat) (q : InoR), j < k → rs[j]? = some q → ¬ x < q.D.ino) : placeOf rs x = k := by
  obtain ⟨hl, he⟩ := List.getElem?_eq_some_iff.1 hk
  refine (List.findIdx_eq hl).2 ⟨by simp [he, hx], fun j hj => ?_⟩
  have := ha j rs[j] hj (List.getElem?_eq_getElem _)
  simpa using this
theorem placeOf_end {rs : List InoR} {x : Int} (ha : ∀ (j : Nat) (q : InoR), rs[j]? = some q → ¬ x < q.D.ino) : placeOf rs x = rs.length := by
  refine List.findIdx_eq_length_of_false fun r hr => ?_
  obtain ⟨j, hj⟩ := List.getElem?_of_mem hr
  simpa using ha j r hj
/-- The table with r set. -/
def putAt (rs : List InoR) (r : InoR) (k : Nat) : List InoR := rs.take k ++ r :: rs.drop k
def setR (rs : List InoR) (r : InoR) : List InoR := match firstAt (inos rs) r.D.ino with
  | some p => rs.set p r
  | none => putAt rs r (placeOf rs r.D.ino)
theorem setR_some {rs : List InoR} {r : InoR} {p : Nat} (h : firstAt (inos rs) r.D.ino = some p) : setR rs r = rs.set p r := by unfold setR; rw [h]
theorem setR_none {rs : List InoR} {r : InoR} (h : firstAt (inos rs) r.D.ino = none) : setR rs r = putAt rs r (placeOf rs r.D.ino) := by unfold setR; rw [h]
theorem putAt_len (rs : List InoR) (r : InoR) (k : Nat) (h : k ≤ rs.length) : (putAt rs r k).length = rs.length + 1 := by
  simp [putAt]
  omega
theorem inos_eq {rs ts : List InoR} (h : ts.map InoR.D = rs.map InoR.D) : inos ts = inos rs := by rw [inos_D, inos_D, h]
theorem place_D {rs ts : List InoR} (h : ts.map InoR.D = rs.map InoR.D) (x : Int) : placeOf ts x = placeOf rs x := by
  have e : ∀ l : List InoR, placeOf l x = (l.map InoR.D).findIdx fun D => decide (x < D.ino) := fun l => by
    unfold placeOf
    rw [List.findIdx_map]
    rfl
  rw [e, e, h]
theorem setR_D (rs ts : List InoR) (r r' : InoR) (h : ts.map InoR.D = rs.map InoR.D) (hr : r'.D = r.D) : (setR ts r').map InoR.D = (setR rs r).map InoR.D := by
  unfold setR
  rw [inos_eq h, hr]
  split
  · rw [List.map_set, List.map_set, h, hr]
  · rw [place_D h]
    unfold putAt
    simp only [List.map_append, List.map_cons, List.map_take, List.map_drop, h, hr]
/-- Copies of ds, in a row v that may be nil, all at or behind B, the lists of each apart from all others. -/
structure DQA (B : Nat) (W : World) (v : Value) (ds : List InoR) (js : List InoJ) : Prop where
  ds : (js.map InoJ.r).map InoR.D = ds.map InoR.D
  row : W.ownsRow B 66 6 v js.length (iv (js.map InoJ.r))
  G : ∀ (i : Nat) (j : InoJ), js[i]? = some j → j.G W
  lo : ∀ (i : Nat) (j : InoJ), js[i]? = some j → B ≤ j.lo ∧ j.lo ≤ j.hi ∧ j.hi ≤ W.heap.size
  apart : ∀ (i i' : Nat) (j j' : InoJ), js[i]? = some j → js[i']? = some j' → i ≠ i' → j.hi ≤ j'.lo ∨ j'.hi ≤ j.lo
  ap : ∀ g, v.ownBlock = some g → ∀ (i : Nat) (j : InoJ), js[i]? = some j → g < j.lo ∨ j.hi ≤ g
theorem DQT.dqa {B : Nat} {W : World} {v : Value} {ds : List InoR} {js : List InoJ} (h : DQT B W v ds js) : DQA B W v ds js :=
  ⟨h.ds, h.row, h.jq.G, h.jq.lo, fun i i' j j' e e' hne => by
    rcases Nat.lt_or_gt_of_ne hne with hl | hl
    · exact .inl (h.jq.ord i i' j j' hl e e')
    · exact .inr (h.jq.ord i' i j' j hl e' e), h.ap⟩
theorem DQA.len {B : Nat} {W : World} {v : Value} {ds : List InoR} {js : List InoJ} (h : DQA B W v ds js) : js.length = ds.length := by have := congrArg List.length h.ds; simpa using this
theorem DQA.kept {B : Nat} {W W' : World} {v : Value} {ds : List InoR} {js : List InoJ} (h : DQA B W v ds js) (hs : W.heap.size ≤ W'.heap.size) (hrow : W'.ownsRow B 66 6 v js.length (iv (js.map InoJ.r))) (k : ∀ (i : Nat) (j : InoJ), js[i]? = some j → ∀ b, j.lo ≤ b → b < j.hi → W'.heap[b]? = W.heap[b]?) : DQA B W' v ds js :=
  ⟨h.ds, hrow, fun i j e => InoG.kept (h.G i j e) (k i j e), fun i j e => by have := h.lo i j e; omega, h.apart, h.ap⟩
theorem DQA.keep {B : Nat} {W W' : World} {v : Value} {ds : List InoR} {js : List InoJ} (h : DQA B W v ds js) (hb : Below W.heap.size W W') : DQA B W' v ds js :=
  h.kept hb.size (row_keep6 h.row hb) (fun i j e b _ h2 => hb.block b (by have := h.lo i j e; omega))
theorem DQA.setX {B : Nat} {W : World} {v : Value} {rs : List InoR} {js : List InoJ} (h : DQA B W v rs js) {X : Nat} (hX : X < B) (i : Nat) (u : Value) : DQA B (W.setCell ⟨X, i, none⟩ u) v rs js :=
  h.kept (by simp [World.setCell]) (row_kept h.row (gr_setC W X i u) (fun m hm e => by have := (World.ownsRow.lt h.row m hm).1; simp at e; omega)) (fun k j e b h1 h2 => (gr_setC W X i u).block b (by have := h.lo k j e; omega) (by have := h.lo k j e; simp; omega))
theorem DQA.lower {B B' : Nat} {W : World} {v : Value} {rs : List InoR} {js : List InoJ} (h : DQA B W v rs js) (hB : B' ≤ B) : DQA B' W v rs js :=
  ⟨h.ds, row_lower h.row hB, h.G, fun i j e => by have := h.lo i j e; omega, h.apart, h.ap⟩
theorem DQA.outs {B : Nat} {W W' : World} {v : Value} {ds : List InoR} {js : List InoJ} {Lo Hi : Nat} (h : DQA B W v ds js) (k : Out Lo Hi W W') (hd : Hi ≤ B) : DQA B W' v ds js := by
  refine h.kept k.size ?_ (fun i j e b h1 h2 => k.block b (by have := h.lo i j e; omega) (by have := h.lo i j e; omega))
  refine ⟨h.row.1, h.row.2.imp id (fun ⟨g, c, cur, h1, h2, h3, rest⟩ => ⟨g, c, cur, h1, h2, ?_, rest⟩)⟩
  rw [k.block g (Array.getElem?_eq_some_iff.1 h3).1 (by omega)]
  exact h3
theorem DQA.cases {B : Nat} {W : World} {a : Option Addr} {n c : Nat} {ds : List InoR} {js : List InoJ} (h : DQA B W (.slice a n c) ds js) (hn : js.length = n) : (a = none ∧ js = [] ∧ n = 0 ∧ c = 0) ∨ ∃ g, a = some ⟨g, 0, none⟩ ∧ B ≤ g ∧ OwnI W g n c (js.map InoJ.r) := by
  have hr := h.row
  rw [hn] at hr
  rcases hr.2 with ⟨h1, h2⟩ | ⟨g, c', cur, h1, h2, rest⟩
  · simp at h1
    obtain ⟨rfl, h3, rfl⟩ := h1
    exact .inl ⟨rfl, List.length_eq_zero_iff.1 (by omega), h3, rfl⟩
  · simp at h1
    obtain ⟨rfl, rfl⟩ := h1
    exact .inr ⟨g, rfl, h2, ⟨hr.1, .inr ⟨g, _, cur, rfl, Nat.zero_le _, rest⟩⟩⟩
theorem DQA.rd {B : Nat} {W : World} {a : Option Addr} {n c : Nat} {ds : List InoR} {js : List InoJ} (h : DQA B W (.slice a n c) ds js) (hn : js.length = n) : RdI W a (js.map InoJ.r) := by
  rcases h.cases hn with ⟨_, rfl, _, _⟩ | ⟨g, rfl, _, ho⟩
  · exact .inl rfl
  · refine OwnI.rds ho (fun r hr => ?_)
    obtain ⟨j, hj, rfl⟩ := List.mem_map.1 hr
    obtain ⟨i, hi⟩ := List.getElem?_of_mem hj
    exact (h.G i j hi).rd
theorem DQA.small {B : Nat} {W : World} {v : Value} {ds : List InoR} {js : List InoJ} (h : DQA B W v ds js) (hs : ∀ r ∈ ds, InoSmall r.D) : ∀ r ∈ js.map InoJ.r, InoSmall r.D := by
  intro r hr
  have h1 : r.D ∈ (js.map InoJ.r).map InoR.D := List.mem_map_of_mem hr
  rw [h.ds] at h1
  obtain ⟨q, hq, hqr⟩ := List.mem_map.1 h1
  rw [← hqr]
  exact hs q hq
theorem DQA.cong {B : Nat} {W : World} {v : Value} {ds ds' : List InoR} {js : List InoJ} (h : DQA B W v ds js) (he : ds.map InoR.D = ds'.map InoR.D) : DQA B W v ds' js := ⟨by rw [h.ds, he], h.row, h.G, h.lo, h.apart, h.ap⟩
theorem eqVA {B B' : Nat} {W : World} {a a' : Option Addr} {n c c' : Nat} {ds : List InoR} {js js' : List InoJ} (nx : Int) (hs : n ≤ 4000000) (hsm : ∀ r ∈ ds, InoSmall r.D) (h : DQA B W (.slice a n c) ds js) (h' : DQA B' W (.slice a' n c') ds js') (hn : js.length = n) (hn' : js'.length = n) :
    Calls Tryz.prog 44 #[.agg #[.slice a n c, .int .i64 nx], .agg #[.slice a' n c', .int .i64 nx]] W fun e w' => e = .returned (.bool true) ∧ Below W.heap.size W w' :=
  eqTab_same _ _ n c c' nx _ _ W (by rw [List.length_map]; exact hn) (by omega) (by rw [h'.ds, h.ds]) (h.small hsm) (h.rd hn) (h'.rd hn')
theorem DQA.apV {B : Nat} {W : World} {v : Value} {ds : List InoR} {js : List InoJ} (h : DQA B W v ds js) : ApV W.heap.size v js := ⟨fun i j e => (h.lo i j e).2.2, fun g hg => (World.ownsRow.lt h.row g hg).2⟩
theorem DQA.outsLow {B T : Nat} {W W' : World} {v : Value} {ds : List InoR} {js : List InoJ} {Lo Hi : Nat} (h : DQA B W v ds js) (ap : ApV T v js) (k : Out Lo Hi W W') (hd : T ≤ Lo) : DQA B W' v ds js := by
  refine h.kept k.size ?_ (fun i j e b h1 h2 => k.block b (by have := h.lo i j e; omega) (by have := ap.1 i j e; omega))
  refine ⟨h.row.1, h.row.2.imp id (fun ⟨g, c, cur, h1, h2, h3, rest⟩ => ⟨g, c, cur, h1, h2, ?_, rest⟩)⟩
  have := ap.2 g (by rw [h1]; rfl)
  rw [k.block g (Array.getElem?_eq_some_iff.1 h3).1 (by omega)]
  exact h3
theorem markVA {B T : Nat} {W : World} {a : Option Addr} {n c : Nat} {ds : List InoR} {js : List InoJ} (nx : Int) (hs : n ≤ 2000000) (hq : qAt 1 js n ≤ 9999990) (h : DQA B W (.slice a n c) ds js) (hn : js.length = n) (hT : T ≤ W.heap.size) (hap : ApV T (.slice a n c) js) :
    Calls Tryz.prog 45 #[.agg #[.slice a n c, .int .i64 nx], .int .i64 1] W fun e w' => e = .returned (.int .i64 ((qAt 1 js n : Nat) : Int)) ∧ TV w' B T a n c js ∧ Out B T W w' := by
  rcases h.cases hn with ⟨rfl, rfl, rfl, rfl⟩ | ⟨g, rfl, hg, ho⟩
  · exact (markTab_nil nx W).mono fun e w' ⟨h1, h2⟩ => ⟨h1, .inl ⟨rfl, rfl, rfl, rfl⟩, Below.out h2 _ _⟩
  · have ap : ApJ g B T js := ⟨h.apart, fun i j e => h.ap g rfl i j e, fun i j e => ⟨(h.lo i j e).1, hap.1 i j e⟩, ⟨hg, hap.2 g rfl⟩⟩
    exact (markTab_any nx g n c B T 1 js W hn (Nat.le_refl _) hs hq ap hT ho h.G).mono fun e w' ⟨h1, h2⟩ => ⟨h1, .inr ⟨g, W, rfl, ap, h2⟩, h2.out⟩
/-- What both SetInode functions answer. -/
def SetPost (w : World) (nx : Int) (ds : List InoR) (e : Ending) (w' : World) : Prop :=
  ∃ (a : Option Addr) (c : Nat) (js : List InoJ), e = .returned (.agg #[.slice a js.length c, .int .i64 nx]) ∧ DQA w.heap.size w' (.slice a js.length c) ds js ∧ Below w.heap.size w w'
end

section
open Go.RowKit
theorem row_stored6 {B : Nat} {w : World} {g n cap : Nat} {rs : List InoR} (h : w.ownsRow B 66 6 (.slice (some ⟨g, 0, none⟩) n cap) n (iv rs)) (k : Nat) (hk : k < n) (r : InoR) : ((((((w.setCell ⟨g, k * 6, none⟩ (.int .i64 r.D.ino)).setCell ⟨g, k * 6 + 1, none⟩ (.int .i64 r.D.kind)).setCell ⟨g, k * 6 + 2, none⟩ (.int .i64 r.D.links)).setCell ⟨g, k * 6 + 3, none⟩ (.slice r.a1 r.D.data.length r.c1)).setCell ⟨g, k * 6 + 4, none⟩ (.slice r.a2 r.D.ents.length r.c2)).setCell ⟨g, k * 6 + 5, none⟩ (.slice r.a3 r.D.attrs.length r.c3)).ownsRow B 66 6 (.slice (some ⟨g, 0, none⟩) n cap) n (iv (rs.set k r)) := by
  have hl : rs.length = n := by have := h.1; rw [iv_length] at this; omega
  have s0 := (World.ownsRow.stored h (k * 6) (.int .i64 r.D.ino)).1
  have s1 := (World.ownsRow.stored s0 (k * 6 + 1) (.int .i64 r.D.kind)).1
  have s2 := (World.ownsRow.stored s1 (k * 6 + 2) (.int .i64 r.D.links)).1
  have s3 := (World.ownsRow.stored s2 (k * 6 + 3) (.slice r.a1 r.D.data.length r.c1)).1
  have s4 := (World.ownsRow.stored s3 (k * 6 + 4) (.slice r.a2 r.D.ents.length r.c2)).1
  have s5 := (World.ownsRow.stored s4 (k * 6 + 5) (.slice r.a3 r.D.attrs.length r.c3)).1
  rw [iv_set rs k r (by omega)] at s5
  exact s5
/-- The p-th replaced. -/
theorem DQA.put {B : Nat} {W : World} {g n c lo hi : Nat} {ds : List InoR} {js : List InoJ} (h : DQA B W (.slice (some ⟨g, 0, none⟩) n c) ds js) (hn : js.length = n) (r r' : InoR) (hD : r'.D = r.D) (hG : (⟨r', lo, hi⟩ : InoJ).G W) (hlo : B ≤ lo ∧ lo ≤ hi ∧ hi ≤ W.heap.size) (hap : ∀ (i : Nat) (j : InoJ), js[i]? = some j → j.hi ≤ lo ∨ hi ≤ j.lo) (hg : g < lo ∨ hi ≤ g) (p : Nat) (hp : p < n) :
    DQA B ((((((W.setCell ⟨g, p * 6, none⟩ (.int .i64 r'.D.ino)).setCell ⟨g, p * 6 + 1, none⟩ (.int .i64 r'.D.kind)).setCell ⟨g, p * 6 + 2, none⟩ (.int .i64 r'.D.links)).setCell ⟨g, p * 6 + 3, none⟩ (.slice r'.a1 r'.D.data.length r'.c1)).setCell ⟨g, p * 6 + 4, none⟩ (.slice r'.a2 r'.D.ents.length r'.c2)).setCell ⟨g, p * 6 + 5, none⟩ (.slice r'.a3 r'.D.attrs.length r'.c3)) (.slice (some ⟨g, 0, none⟩) n c) (ds.set p r) (js.set p ⟨r', lo, hi⟩) := by
  have hrow := h.row
  rw [hn] at hrow
  have hr' := row_stored6 hrow p hp r'
  have hgr : W.grownBy ((((((W.setCell ⟨g, p * 6, none⟩ (.int .i64 r'.D.ino)).setCell ⟨g, p * 6 + 1, none⟩ (.int .i64 r'.D.kind)).setCell ⟨g, p * 6 + 2, none⟩ (.int .i64 r'.D.links)).setCell ⟨g, p * 6 + 3, none⟩ (.slice r'.a1 r'.D.data.length r'.c1)).setCell ⟨g, p * 6 + 4, none⟩ (.slice r'.a2 r'.D.ents.length r'.c2)).setCell ⟨g, p * 6 + 5, none⟩ (.slice r'.a3 r'.D.attrs.length r'.c3)) (some g) := gr_more (gr_more (gr_more (gr_more (gr_more (gr_setC W g (p * 6) _) (p * 6 + 1) _) (p * 6 + 2) _) (p * 6 + 3) _) (p * 6 + 4) _) (p * 6 + 5) _
  generalize (((((W.setCell ⟨g, p * 6, none⟩ (.int .i64 r'.D.ino)).setCell ⟨g, p * 6 + 1, none⟩ (.int .i64 r'.D.kind)).setCell ⟨g, p * 6 + 2, none⟩ (.int .i64 r'.D.links)).setCell ⟨g, p * 6 + 3, none⟩ (.slice r'.a1 r'.D.data.length r'.c1)).setCell ⟨g, p * 6 + 4, none⟩ (.slice r'.a2 r'.D.ents.length r'.c2)).setCell ⟨g, p * 6 + 5, none⟩ (.slice r'.a3 r'.D.attrs.length r'.c3) = W' at hr' hgr ⊢
  have hs := hgr.size
  have hc : ∀ (i : Nat) (j : InoJ), (js.set p ⟨r', lo, hi⟩)[i]? = some j → (i = p ∧ j = ⟨r', lo, hi⟩) ∨ (i ≠ p ∧ js[i]? = some j) := by
    intro i j e
    by_cases he : p = i
    · subst he
      rw [List.getElem?_set_self (by omega)] at e
      exact .inl ⟨rfl, by simpa using e.symm⟩
    · rw [List.getElem?_set_ne he] at e
      exact .inr ⟨fun e => he e.symm, e⟩
  refine ⟨?_, ?_, ?_, ?_, ?_, ?_⟩
  · rw [List.map_set, List.map_set, h.ds, List.map_set]
    dsimp only
    rw [hD]
  · rw [List.length_set, hn, List.map_set]
    exact hr'
  · intro i j e
    rcases hc i j e with ⟨_, rfl⟩ | ⟨_, e⟩
    · exact InoG.kept hG (fun b h1 h2 => hgr.block b (by dsimp only at h2; omega) (by dsimp only at h1 h2; simp; omega))
    · exact InoG.kept (h.G i j e) (fun b h1 h2 => hgr.block b (by have := h.lo i j e; omega) (by have := h.ap g rfl i j e; simp; omega))
  · intro i j e
    rcases hc i j e with ⟨_, rfl⟩ | ⟨_, e⟩
    · dsimp only
      omega
    · have := h.lo i j e
      omega
  · intro i i' j j' e e' hne
    rcases hc i j e with ⟨h1, rfl⟩ | ⟨h1, e⟩
    · rcases hc i' j' e' with ⟨h2, rfl⟩ | ⟨h2, e'⟩
      · omega
      · have := hap i' j' e'
        dsimp only
        omega
    · rcases hc i' j' e' with ⟨h2, rfl⟩ | ⟨h2, e'⟩
      · exact hap i j e
      · exact h.apart i i' j j' e e' hne
  · intro m hm i j e
    simp [Value.ownBlock] at hm
    subst hm
    rcases hc i j e with ⟨_, rfl⟩ | ⟨_, e⟩
    · exact hg
    · exact h.ap g rfl i j e
/-- One put in, in another row. -/
theorem DQA.ins {B : Nat} {W W' : World} {v : Value} {g n c k lo hi : Nat} {ds : List InoR} {js : List InoJ} (h : DQA B W v ds js) (hn : js.length = n) (hk : k ≤ n) (r r' : InoR) (hD : r'.D = r.D) (hs : W.heap.size ≤ W'.heap.size)
    (hrow : W'.ownsRow B 66 6 (.slice (some ⟨g, 0, none⟩) (n + 1) c) (n + 1) (iv ((js.take k).map InoJ.r) ++ r'.six ++ iv ((js.drop k).map InoJ.r))) (hkeep : ∀ (i : Nat) (j : InoJ), js[i]? = some j → ∀ b, j.lo ≤ b → b < j.hi → W'.heap[b]? = W.heap[b]?)
    (hG : (⟨r', lo, hi⟩ : InoJ).G W') (hlo : B ≤ lo ∧ lo ≤ hi ∧ hi ≤ W'.heap.size) (hap : ∀ (i : Nat) (j : InoJ), js[i]? = some j → j.hi ≤ lo ∨ hi ≤ j.lo) (hg : g < lo ∨ hi ≤ g) (hgj : ∀ (i : Nat) (j : InoJ), js[i]? = some j → g < j.lo ∨ j.hi ≤ g) :
    DQA B W' (.slice (some ⟨g, 0, none⟩) (n + 1) c) (putAt ds r k) (js.take k ++ ⟨r', lo, hi⟩ :: js.drop k) := by
  have hlt : (js.take k).length = k := by rw [List.length_take]; omega
  have hc : ∀ (i : Nat) (j : InoJ), (js.take k ++ ⟨r', lo, hi⟩ :: js.drop k)[i]? = some j → (i = k ∧ j = ⟨r', lo, hi⟩) ∨ ∃ i0, js[i0]? = some j ∧ ((i < k ∧ i0 = i) ∨ (k < i ∧ i0 + 1 = i)) := by
    intro i j e
    by_cases hi' : i < k
    · rw [List.getElem?_append_left (by omega), List.getElem?_take_of_lt hi'] at e
      exact .inr ⟨i, e, .inl ⟨hi', rfl⟩⟩
    · rw [List.getElem?_append_right (by omega), hlt] at e
      by_cases hz : i = k
      · subst hz
        simp at e
        exact .inl ⟨rfl, e.symm⟩
      · obtain ⟨m, hm⟩ : ∃ m, i - k = m + 1 := ⟨i - k - 1, by omega⟩
        rw [hm, List.getElem?_cons_succ, List.getElem?_drop] at e
        exact .inr ⟨k + m, e, .inr ⟨by omega, by omega⟩⟩
  refine ⟨?_, ?_, ?_, ?_, ?_, ?_⟩
  · have hd := h.ds
    unfold putAt
    simp only [List.map_append, List.map_cons, List.map_take, List.map_drop, hd, hD]
  · have hl : (js.take k ++ ⟨r', lo, hi⟩ :: js.drop k).length = n + 1 := by simp; omega
    rw [hl, List.map_append, List.map_cons, iv_append, iv_cons, ← List.append_assoc]
    exact hrow
  · intro i j e
    rcases hc i j e with ⟨_, rfl⟩ | ⟨i0, e0, _⟩
    · exact hG
    · exact InoG.kept (h.G i0 j e0) (hkeep i0 j e0)
  · intro i j e
    rcases hc i j e with ⟨_, rfl⟩ | ⟨i0, e0, _⟩
    · exact hlo
    · have := h.lo i0 j e0
      omega
  · intro i i' j j' e e' hne
    rcases hc i j e with ⟨h1, rfl⟩ | ⟨i0, e0, h1⟩
    · rcases hc i' j' e' with ⟨h2, rfl⟩ | ⟨i1, e1, h2⟩
      · omega
      · have := hap i1 j' e1
        dsimp only
        omega
    · rcases hc i' j' e' with ⟨h2, rfl⟩ | ⟨i1, e1, h2⟩
      · exact hap i0 j e0
      · exact h.apart i0 i1 j j' e0 e1 (by omega)
  · intro m hm i j e
    simp [Value.ownBlock] at hm
    subst hm
    rcases hc i j e with ⟨_, rfl⟩ | ⟨i0, e0, _⟩
    · exact hg
    · exact hgj i0 j e0
/-- Inodes appended onto a row of one's own; none, too. -/
theorem run_app6 (W : World) (B : Nat) (g k c : Nat) (xs : List Value) (hB : B ≤ W.heap.size) (hown : W.ownsRow B 66 6 (.slice (some ⟨g, 0, none⟩) k c) k xs) (ao : Option Addr) (m mc : Nat) (news : List Value) (hl : news.length = m * 6) (hsrc : m = 0 ∨ ∃ ad, ao = some ad ∧ ∀ j u, news[j]? = some u → W.cell? (ad.add j) = some u)
    (h1 : ∀ u ∈ news, u.oneCell' = true) (hkm : k + m ≤ 2000000) (ty : TypeId) :
    ∃ g' c' W', (Builtin.append_ #[24, 24] ty #[.slice (some ⟨g, 0, none⟩) k c, .slice ao m mc]).run Tryz.prog W = .ok (.slice (some ⟨g', 0, none⟩) (k + m) c') W' ∧ W'.ownsRow B 66 6 (.slice (some ⟨g', 0, none⟩) (k + m) c') (k + m) (xs ++ news) ∧ W.grownBy W' (some g) ∧ (g' = g ∨ g' = W.heap.size) ∧ g' < W'.heap.size := by
  obtain ⟨ii, hii, zi0, zi1, zi2⟩ := info_parts Tryz.infoInode
  have hglt : g < W.heap.size := (World.ownsRow.lt hown g rfl).2
  by_cases h0 : m = 0
  · subst h0
    obtain rfl : news = [] := List.length_eq_zero_iff.1 (by simpa using hl)
    have hs : Go.Src Tryz.prog ii.size 24 (.slice ao 0 mc) 0 [] W := by
      cases ao with
      | none => exact Go.Src.ofNil W Tryz.underlying24 mc
      | some ad => exact Go.Src.ofSlice W Tryz.underlying24 ad 0 mc [] (by simp) (fun j u hj => by simp at hj) (fun u hu => by simp at hu)
    have hkc : k ≤ c := by
      rcases hown.2 with ⟨h', _⟩ | ⟨g', c', cur, h', _, _, h5, _⟩
      · simp at h'
      · simp at h'
        omega
    have hr := run_append_room_src W 24 24 ty 66 ii Tryz.underlying24 hii g 0 k c (.slice ao 0 mc) 0 [] hs (by omega) (fun j hj => by simp at hj) (fun j hj => by simp at hj)
    refine ⟨g, c, W, ?_, by rw [Nat.add_zero, List.append_nil]; exact hown, World.grownBy.refl W _, .inl rfl, hglt⟩
    rw [hr]
    rfl
  · rcases hsrc with hz | ⟨ad, rfl, hn⟩
    · exact absurd hz h0
    · obtain ⟨g', c', W', h2, h3, h4, h5, h6⟩ := run_append_lies (P := Tryz.prog) W 24 ty B 66 ii _ 6 96 Tryz.underlying24 hii zi0 zi1 zi2 rfl (by omega) _ k xs hown ad m mc news hl hn h1 (by omega) (by unfold maxLen; omega) (by omega) hB W.heap.size rfl
      exact ⟨g', c', W', h2, h3, h4, h5.imp (fun e => by simpa [Value.ownBlock] using e.symm) id, h6⟩
/-- At the operation; at a step of a region that draws. -/
theorem wpList_app6 (W : World) {ops : Array Oper} {rest : List Oper} {o : Oper} {a : Act} {Q : Exit → Act → World → Prop} (hgd : o.guard = none) (s x : Operand)
    (ho : o.op = .call { callee := .builtin .append, args := #[s, x], argTypes := #[24, 24] }) (B g k c : Nat) (xs : List Value) (hB : B ≤ W.heap.size) (hs : a.eval s = .slice (some ⟨g, 0, none⟩) k c) (hown : W.ownsRow B 66 6 (.slice (some ⟨g, 0, none⟩) k c) k xs) (ao : Option Addr) (m mc : Nat) (hx : a.eval x = .slice ao m mc) (news : List Value) (hl : news.length = m * 6) (hsrc : m = 0 ∨ ∃ ad, ao = some ad ∧ ∀ j u, news[j]? = some u → W.cell? (ad.add j) = some u)
    (h1 : ∀ u ∈ news, u.oneCell' = true) (hkm : k + m ≤ 2000000)
    (h : ∀ g' c' W', W'.ownsRow B 66 6 (.slice (some ⟨g', 0, none⟩) (k + m) c') (k + m) (xs ++ news) → W.grownBy W' (some g) → (g' = g ∨ g' = W.heap.size) → g' < W'.heap.size → wpList Tryz.prog ops Q rest (a.put o.dst (.slice (some ⟨g', 0, none⟩) (k + m) c')) W') :
    wpList Tryz.prog ops Q (o :: rest) a W := by
  refine wpList_plain hgd fun K hK => ?_
  obtain ⟨g', c', W', e1, e2, e3, e4, e5⟩ := run_app6 W B g k c xs hB hown ao m mc news hl hsrc h1 hkm o.type
  unfold Oper.wp execOp
  simp only [ho, resolve, invoke, builtin, Sem.run_bind, Sem.run_pure, Result.andThen_ok, List.map_toArray, List.map_cons, List.map_nil, hs, hx, e1]
  exact hK _ _ (h g' c' W' e2 e3 e4 e5)
theorem step_app6 (W : World) {ops : Array Oper} {o : Oper} {a : Act} {K : Act → World → Prop} {Q : Exit → Act → World → Prop} {E : Prop} (hgd : o.guard = none) (s x : Operand)
    (ho : o.op = .call { callee := .builtin .append, args := #[s, x], argTypes := #[24, 24] }) (B g k c : Nat) (xs : List Value) (hB : B ≤ W.heap.size) (hs : a.eval s = .slice (some ⟨g, 0, none⟩) k c) (hown : W.ownsRow B 66 6 (.slice (some ⟨g, 0, none⟩) k c) k xs) (ao : Option Addr) (m mc : Nat) (hx : a.eval x = .slice ao m mc) (news : List Value) (hl : news.length = m * 6) (hsrc : m = 0 ∨ ∃ ad, ao = some ad ∧ ∀ j u, news[j]? = some u → W.cell? (ad.add j) = some u)
    (h1 : ∀ u ∈ news, u.oneCell' = true) (hkm : k + m ≤ 2000000)
    (h : ∀ g' c' W', W'.ownsRow B 66 6 (.slice (some ⟨g', 0, none⟩) (k + m) c') (k + m) (xs ++ news) → W.grownBy W' (some g) → (g' = g ∨ g' = W.heap.size) → g' < W'.heap.size → K (a.put o.dst (.slice (some ⟨g', 0, none⟩) (k + m) c')) W') :
    if Region.wanted o (yielded ops a.tmps) = true then Oper.wp Tryz.prog o a W K Q else E := by
  have hw : Region.wanted o (yielded ops a.tmps) = true := by simp [Region.wanted, hgd]
  rw [if_pos hw]
  obtain ⟨g', c', W', e1, e2, e3, e4, e5⟩ := run_app6 W B g k c xs hB hown ao m mc news hl hsrc h1 hkm o.type
  unfold Oper.wp execOp
  simp only [ho, resolve, invoke, builtin, Sem.run_bind, Sem.run_pure, Result.andThen_ok, List.map_toArray, List.map_cons, List.map_nil, hs, hx, e1]
  exact h g' c' W' e2 e3 e4 e5
theorem iv_one (rs : List InoR) : ∀ u ∈ iv rs, u.oneCell' = true := fun u hu => by
  unfold iv at hu
  obtain ⟨r, _, hr⟩ := List.mem_flatMap.1 hu
  exact six_one r u hr
theorem iv_take (rs : List InoR) (k : Nat) : iv (rs.take k) = (iv rs).take (k * 6) := by
  by_cases h : k ≤ rs.length
  · have e : iv rs = iv (rs.take k) ++ iv (rs.drop k) := by rw [← iv_append, List.take_append_drop]
    rw [e, List.take_left' (by rw [iv_length, List.length_take]; omega)]
  · rw [List.take_of_length_le (by omega), List.take_of_length_le (by rw [iv_length]; omega)]
theorem iv_drop (rs : List InoR) (k : Nat) : iv (rs.drop k) = (iv rs).drop (k * 6) := by
  by_cases h : k ≤ rs.length
  · have e : iv rs = iv (rs.take k) ++ iv (rs.drop k) := by rw [← iv_append, List.take_append_drop]
    rw [e, List.drop_left' (by rw [iv_length, List.length_take]; omega)]
  · rw [List.drop_of_length_le (by omega), List.drop_of_length_le (by rw [iv_length]; omega)]
    rfl
/-- The cells of a table's row. -/
theorem DQA.cell {B : Nat} {W : World} {g n c : Nat} {ds : List InoR} {js : List InoJ} (h : DQA B W (.slice (some ⟨g, 0, none⟩) n c) ds js) (hn : js.length = n) (j : Nat) (u : Value) (hu : (iv (js.map InoJ.r))[j]? = some u) : W.cell? ⟨g, j, none⟩ = some u := by
  have hr := h.row
  rw [hn] at hr
  have hj := (List.getElem?_eq_some_iff.1 hu).1
  rw [hr.1] at hj
  rw [World.ownsRow.cellAt hr j (by omega)]
  exact hu
theorem DQA.own {B : Nat} {W : World} {g n c : Nat} {ds : List InoR} {js : List InoJ} (h : DQA B W (.slice (some ⟨g, 0, none⟩) n c) ds js) (hn : js.length = n) : OwnI W g n c (js.map InoJ.r) := by
  rcases h.cases hn with ⟨h', _⟩ | ⟨g', h', _, ho⟩
  · simp at h'
  · simp at h'
    subst h'
    exact ho
end
end Go.Proofs.YtnfplimhhjpbkaaGreatDoor
