/-
  Joined: SetM, Cut, Iter, Split, SplitS, Eqs.
-/
import Derived.Test.YtbjfihabkpianaaGreatDoorJ06E
import Derived.RangeFuncBox
import Derived.RangeFuncNested
import Derived.RangeFuncBound
import Derived.RangeFuncCalls
import Derived.RangeFuncLeaves
import Derived.Shelf.Abstract
import Derived.Shelf.RegionOpen
import Derived.OwnWalkIn
import Derived.TacticsInMore
import Derived.LoopNIn
import Derived.LoopIn
namespace Go.Proofs.YtbjfihabkpianaaGreatDoor
section
open Go.RowKit
/-- Where a number that is not there belongs. -/
def placeOf (rs : List InoR) (x : Int) : Nat := rs.findIdx fun r => decide (x < r.D.ino)
theorem placeOf_le (rs : List InoR) (x : Int) : placeOf rs x ≤ rs.length := List.findIdx_le_length
theorem placeOf_is {rs : List InoR} {x : Int} {k : Nat} {r : InoR} (hk : rs[k]? = some r) (hx : x < r.D.ino) (ha : ∀ (j : Nat) (q : InoR), j < k → rs[j]? = some q → ¬ x < q.D.ino) : placeOf rs x = k := by
  obtain ⟨hl, he⟩ := List.getElem?_eq_some_iff.1 hk
  refine (List.findIdx_eq hl).2 ⟨by simp [he, hx], fun j hj => ?_⟩
  have := ha j rs[j] hj (List.getElem?_eq_getElem _)
  simpa using this
theorem placeOf_end {rs : List InoR} {x : Int} (ha : ∀ (j : Nat) (q : InoR), rs[j]? = some q → ¬ x < q.D.ino) : placeOf rs x = rs.length := by
  refine List.findIdx_eq_length_of_false fun r hr => ?_
  obtain ⟨j, hj⟩ := List.getElem?_of_mem hr
  simpa using ha j r hj
/-- The table with r set. -/
def putAt (rs : List InoR) (r : InoR) (k : Nat) : List InoR := rs.take k ++ r :: rs.drop k
def setR (rs : List InoR) (r : InoR) : List InoR := match firstAt (inos rs) r.D.ino with
  | some p => rs.set p r
  | none => putAt rs r (placeOf rs r.D.ino)
theorem setR_some {rs : List InoR} {r : InoR} {p : Nat} (h : firstAt (inos rs) r.D.ino = some p) : setR rs r = rs.set p r := by unfold setR; rw [h]
theorem setR_none {rs : List InoR} {r : InoR} (h : firstAt (inos rs) r.D.ino = none) : setR rs r = putAt rs r (placeOf rs r.D.ino) := by unfold setR; rw [h]
theorem putAt_len (rs : List InoR) (r : InoR) (k : Nat) (h : k ≤ rs.length) : (putAt rs r k).length = rs.length + 1 := by
  simp [putAt]
  omega
theorem inos_eq {rs ts : List InoR} (h : ts.map InoR.D = rs.map InoR.D) : inos ts = inos rs := by rw [inos_D, inos_D, h]
theorem place_D {rs ts : List InoR} (h : ts.map InoR.D = rs.map InoR.D) (x : Int) : placeOf ts x = placeOf rs x := by
  have e : ∀ l : List InoR, placeOf l x = (l.map InoR.D).findIdx fun D => decide (x < D.ino) := fun l => by
    unfold placeOf
    rw [List.findIdx_map]
    rfl
  rw [e, e, h]
theorem setR_D (rs ts : List InoR) (r r' : InoR) (h : ts.map InoR.D = rs.map InoR.D) (hr : r'.D = r.D) : (setR ts r').map InoR.D = (setR rs r).map InoR.D := by
  unfold setR
  rw [inos_eq h, hr]
  split
  · rw [List.map_set, List.map_set, h, hr]
  · rw [place_D h]
    unfold putAt
    simp only [List.map_append, List.map_cons, List.map_take, List.map_drop, h, hr]
/-- Copies of ds, in a row v that may be nil, all at or behind B, the lists of each apart from all others. -/
structure DQA (B : Nat) (W : World) (v : Value) (ds : List InoR) (js : List InoJ) : Prop where
  ds : (js.map InoJ.r).map InoR.D = ds.map InoR.D
  row : W.ownsRow B 68 6 v js.length (iv (js.map InoJ.r))
  G : ∀ (i : Nat) (j : InoJ), js[i]? = some j → j.G W
  lo : ∀ (i : Nat) (j : InoJ), js[i]? = some j → B ≤ j.lo ∧ j.lo ≤ j.hi ∧ j.hi ≤ W.heap.size
  apart : ∀ (i i' : Nat) (j j' : InoJ), js[i]? = some j → js[i']? = some j' → i ≠ i' → j.hi ≤ j'.lo ∨ j'.hi ≤ j.lo
  ap : ∀ g, v.ownBlock = some g → ∀ (i : Nat) (j : InoJ), js[i]? = some j → g < j.lo ∨ j.hi ≤ g
theorem DQT.dqa {B : Nat} {W : World} {v : Value} {ds : List InoR} {js : List InoJ} (h : DQT B W v ds js) : DQA B W v ds js :=
  ⟨h.ds, h.row, h.jq.G, h.jq.lo, fun i i' j j' e e' hne => by
    rcases Nat.lt_or_gt_of_ne hne with hl | hl
    · exact .inl (h.jq.ord i i' j j' hl e e')
    · exact .inr (h.jq.ord i' i j' j hl e' e), h.ap⟩
theorem DQA.len {B : Nat} {W : World} {v : Value} {ds : List InoR} {js : List InoJ} (h : DQA B W v ds js) : js.length = ds.length := by have := congrArg List.length h.ds; simpa using this
theorem DQA.kept {B : Nat} {W W' : World} {v : Value} {ds : List InoR} {js : List InoJ} (h : DQA B W v ds js) (hs : W.heap.size ≤ W'.heap.size) (hrow : W'.ownsRow B 68 6 v js.length (iv (js.map InoJ.r))) (k : ∀ (i : Nat) (j : InoJ), js[i]? = some j → ∀ b, j.lo ≤ b → b < j.hi → W'.heap[b]? = W.heap[b]?) : DQA B W' v ds js :=
  ⟨h.ds, hrow, fun i j e => InoG.kept (h.G i j e) (k i j e), fun i j e => by have := h.lo i j e; omega, h.apart, h.ap⟩
theorem DQA.keep {B : Nat} {W W' : World} {v : Value} {ds : List InoR} {js : List InoJ} (h : DQA B W v ds js) (hb : Below W.heap.size W W') : DQA B W' v ds js :=
  h.kept hb.size (row_keep6 h.row hb) (fun i j e b _ h2 => hb.block b (by have := h.lo i j e; omega))
theorem DQA.setX {B : Nat} {W : World} {v : Value} {rs : List InoR} {js : List InoJ} (h : DQA B W v rs js) {X : Nat} (hX : X < B) (i : Nat) (u : Value) : DQA B (W.setCell ⟨X, i, none⟩ u) v rs js :=
  h.kept (by simp [World.setCell]) (row_kept h.row (gr_setC W X i u) (fun m hm e => by have := (World.ownsRow.lt h.row m hm).1; simp at e; omega)) (fun k j e b h1 h2 => (gr_setC W X i u).block b (by have := h.lo k j e; omega) (by have := h.lo k j e; simp; omega))
theorem DQA.lower {B B' : Nat} {W : World} {v : Value} {rs : List InoR} {js : List InoJ} (h : DQA B W v rs js) (hB : B' ≤ B) : DQA B' W v rs js :=
  ⟨h.ds, row_lower h.row hB, h.G, fun i j e => by have := h.lo i j e; omega, h.apart, h.ap⟩
theorem DQA.cases {B : Nat} {W : World} {a : Option Addr} {n c : Nat} {ds : List InoR} {js : List InoJ} (h : DQA B W (.slice a n c) ds js) (hn : js.length = n) : (a = none ∧ js = [] ∧ n = 0 ∧ c = 0) ∨ ∃ g, a = some ⟨g, 0, none⟩ ∧ B ≤ g ∧ OwnI W g n c (js.map InoJ.r) := by
  have hr := h.row
  rw [hn] at hr
  rcases hr.2 with ⟨h1, h2⟩ | ⟨g, c', cur, h1, h2, rest⟩
  · simp at h1
    obtain ⟨rfl, h3, rfl⟩ := h1
    exact .inl ⟨rfl, List.length_eq_zero_iff.1 (by omega), h3, rfl⟩
  · simp at h1
    obtain ⟨rfl, rfl⟩ := h1
    exact .inr ⟨g, rfl, h2, ⟨hr.1, .inr ⟨g, _, cur, rfl, Nat.zero_le _, rest⟩⟩⟩
theorem DQA.rd {B : Nat} {W : World} {a : Option Addr} {n c : Nat} {ds : List InoR} {js : List InoJ} (h : DQA B W (.slice a n c) ds js) (hn : js.length = n) : RdI W a (js.map InoJ.r) := by
  rcases h.cases hn with ⟨_, rfl, _, _⟩ | ⟨g, rfl, _, ho⟩
  · exact .inl rfl
  · refine OwnI.rds ho (fun r hr => ?_)
    obtain ⟨j, hj, rfl⟩ := List.mem_map.1 hr
    obtain ⟨i, hi⟩ := List.getElem?_of_mem hj
    exact (h.G i j hi).rd
theorem DQA.small {B : Nat} {W : World} {v : Value} {ds : List InoR} {js : List InoJ} (h : DQA B W v ds js) (hs : ∀ r ∈ ds, InoSmall r.D) : ∀ r ∈ js.map InoJ.r, InoSmall r.D := by
  intro r hr
  have h1 : r.D ∈ (js.map InoJ.r).map InoR.D := List.mem_map_of_mem hr
  rw [h.ds] at h1
  obtain ⟨q, hq, hqr⟩ := List.mem_map.1 h1
  rw [← hqr]
  exact hs q hq
theorem DQA.cong {B : Nat} {W : World} {v : Value} {ds ds' : List InoR} {js : List InoJ} (h : DQA B W v ds js) (he : ds.map InoR.D = ds'.map InoR.D) : DQA B W v ds' js := ⟨by rw [h.ds, he], h.row, h.G, h.lo, h.apart, h.ap⟩
theorem DQA.apV {B : Nat} {W : World} {v : Value} {ds : List InoR} {js : List InoJ} (h : DQA B W v ds js) : ApV W.heap.size v js := ⟨fun i j e => (h.lo i j e).2.2, fun g hg => (World.ownsRow.lt h.row g hg).2⟩
/-- What both SetInode functions answer. -/
def SetPost (w : World) (nx : Int) (ds : List InoR) (e : Ending) (w' : World) : Prop :=
  ∃ (a : Option Addr) (c : Nat) (js : List InoJ), e = .returned (.agg #[.slice a js.length c, .int .i64 nx]) ∧ DQA w.heap.size w' (.slice a js.length c) ds js ∧ Below w.heap.size w w'
end

section
open Go.RowKit
/-- The text of one slash. -/
abbrev slashB : ByteArray := ⟨#[47]⟩
set_option maxHeartbeats 1000000 in
set_option maxRecDepth 100000 in
theorem indexByte_slash (s : ByteArray) (w : World) :
    Calls Tryz.prog 319 #[.string s, .int .u8 47] w fun e w' => e = .returned (.int .i64 (Lib.indexByte s.data.toList 47)) ∧ w' = w := by
  go_enter Tryz.func319, Tryz.ntmps319
  go_wp2
  rw [run_callFunc_extern Tryz.func327 (by kernel_rfl) (by kernel_rfl) (by kernel_rfl) (e := Extern.BytealgIndexByte.indexByte) (by kernel_rfl), Lib.run_indexByteString]
  simp only [Result.andThen]
  rw [Oper.upon_value]
  go_wp2
  go_ret
  exact ⟨rfl, rfl⟩
set_option maxHeartbeats 2000000 in
set_option maxRecDepth 100000 in
theorem index_slash (s : ByteArray) (w : World) :
    Calls Tryz.prog 301 #[.string s, .string slashB] w fun e w' => e = .returned (.int .i64 (Lib.indexByte s.data.toList 47)) ∧ w' = w := by
  by_cases h : s.toList = [47]
  · have hb : ([47] == s.toList) = true := by rw [h]; rfl
    have he : Hid (Lib.indexByte s.data.toList 47 = 0) := by
      rw [← Lib.toList_data, h]; exact rfl
    go_enter Tryz.func301, Tryz.ntmps301
    go_wp2
    go_ret
    exact ⟨by rw [he.out]; rfl, rfl⟩
  · have hb : ([47] == s.toList) = false := by rw [beq_eq_false_iff_ne]; exact fun e => h e.symm
    go_enter Tryz.func301, Tryz.ntmps301
    go_wp2_with fail
    refine (indexByte_slash s w).mono ?_
    rintro e w1 ⟨rfl, rfl⟩
    go_wp2
    go_ret
    exact ⟨rfl, rfl⟩
/-- Where the first slash of a text is. -/
theorem index_cases (l : Str) : (Lib.indexByte l 47 = -1 ∧ 47 ∉ l) ∨ ∃ i : Nat, Lib.indexByte l 47 = i ∧ i < l.length ∧ l = l.take i ++ 47 :: l.drop (i + 1) ∧ 47 ∉ l.take i := by
  have hge := Lib.indexByte_ge l 47
  by_cases h : Lib.indexByte l 47 = -1
  · left
    refine ⟨h, fun hm => ?_⟩
    obtain ⟨k, hk⟩ := List.getElem?_of_mem hm
    exact Lib.indexByte_none h k hk
  · right
    obtain ⟨i, hi⟩ : ∃ i : Nat, Lib.indexByte l 47 = i := ⟨(Lib.indexByte l 47).toNat, by omega⟩
    obtain ⟨h1, h2⟩ := Lib.indexByte_some hi
    have hlt : i < l.length := by
      rcases Nat.lt_or_ge i l.length with h | h
      · exact h
      · rw [List.getElem?_eq_none h] at h1; simp at h1
    refine ⟨i, hi, hlt, ?_, fun hm => ?_⟩
    · have e := List.take_append_drop i l
      rw [List.drop_eq_getElem_cons hlt] at e
      rw [List.getElem?_eq_getElem hlt] at h1
      simp only [Option.some.injEq] at h1
      rw [h1] at e
      exact e.symm
    · obtain ⟨k, hk⟩ := List.getElem?_of_mem hm
      rw [List.getElem?_take] at hk
      split at hk
      · rename_i hki
        exact h2 k hki hk
      · simp at hk
/-- What Cut answers at a slash. -/
def CutPost (s : ByteArray) (w : World) (e : Ending) (w' : World) : Prop :=
  (e = .returned (.tuple #[.string s, .string ⟨#[]⟩, .bool false]) ∧ 47 ∉ s.data.toList ∧ ∃ n, w' = w.drewN n) ∨
  (∃ b a : ByteArray, e = .returned (.tuple #[.string b, .string a, .bool true]) ∧ s.data.toList = b.data.toList ++ 47 :: a.data.toList ∧ 47 ∉ b.data.toList ∧ ∃ n, w' = w.drewN n)
set_option maxHeartbeats 2000000 in
set_option maxRecDepth 100000 in
theorem cut_inner (s : ByteArray) (w : World) (hs : s.size ≤ 4000000) :
    Calls Tryz.prog 264 #[.string s, .string slashB] w (CutPost s w) := by
  rcases index_cases s.data.toList with ⟨hi, hno⟩ | ⟨i, hi, hlt, hcut, hno⟩
  · have hi' : Hid (Lib.indexByte s.data.toList 47 = -1) := hi
    clear hi
    go_enter Tryz.func264, Tryz.ntmps264
    go_wp2_with fail
    refine (index_slash s w).mono ?_
    rintro e w1 ⟨rfl, rfl⟩
    rw [hi'.out]
    go_wp2
    go_ret3
    exact .inl ⟨rfl, hno, 0, rfl⟩
  · have hi' : Hid (Lib.indexByte s.data.toList 47 = i) := hi
    have hcut' : Hid (s.data.toList = s.data.toList.take i ++ 47 :: s.data.toList.drop (i + 1)) := hcut
    have hsz := Lib.size_eq s
    clear hi hcut
    have c1 : (0 : Int) ≤ ↑i := by omega
    have c2 : (↑i : Int) ≤ ↑s.size := by omega
    have c3 : (0 : Int) ≤ ↑i + 1 := by omega
    have c4 : (↑i + 1 : Int) ≤ ↑s.size := by omega
    have fin : ∀ n w, CutPost s w (.returned (.tuple #[.string (s.extract 0 i), .string (s.extract (i + 1) s.size), .bool true])) (w.drewN n) := by
      intro n w
      refine .inr ⟨_, _, rfl, ?_, ?_, n, rfl⟩
      · rw [Lib.extract_data, Lib.extract_data]
        simp only [List.drop_zero, Nat.sub_zero]
        rw [List.take_of_length_le (l := s.data.toList.drop (i + 1)) (by simp)]
        exact hcut'.out
      · rw [Lib.extract_data]
        simpa using hno
    have Fin : Hid (∀ n w, CutPost s w (.returned (.tuple #[.string (s.extract 0 i), .string (s.extract (i + 1) s.size), .bool true])) (w.drewN n)) := fin
    clear fin hlt hsz
    go_enter Tryz.func264, Tryz.ntmps264
    go_wp2_with fail
    refine (index_slash s w).mono ?_
    rintro e w1 ⟨rfl, rfl⟩
    rw [hi'.out]
    go_wp2
    go_quiet (fail)
    go_wp2
    go_ret3
    exact Fin.out _ _
set_option maxHeartbeats 2000000 in
theorem cut_any (s : ByteArray) (w : World) (hs : s.size ≤ 4000000) :
    Calls Tryz.prog 221 #[.string s, .string slashB] w (CutPost s w) := by
  go_enter Tryz.func221, Tryz.ntmps221
  go_wp2_with fail
  refine (cut_inner s w hs).mono ?_
  rintro e w1 (⟨rfl, h, n, rfl⟩ | ⟨b, a, rfl, h1, h2, n, rfl⟩)
  · go_wp2
    go_ret3
    exact .inl ⟨rfl, h, n, rfl⟩
  · go_wp2
    go_ret3
    exact .inr ⟨b, a, rfl, h1, h2, n, rfl⟩
/-- What CutPrefix answers at a slash. -/
def PrePost (s : ByteArray) (w : World) (e : Ending) (w' : World) : Prop := w' = w ∧
  ((∃ r, s.data.toList = 47 :: r ∧ e = .returned (.tuple #[.string ⟨r.toArray⟩, .bool true])) ∨ ((∀ r, s.data.toList ≠ 47 :: r) ∧ e = .returned (.tuple #[.string s, .bool false])))
set_option maxHeartbeats 2000000 in
theorem prefix_any (s : ByteArray) (w : World) :
    Calls Tryz.prog 163 #[.string s, .string slashB] w (PrePost s w) := by
  have hsz := Lib.size_eq s
  by_cases h1 : (1 : Int) ≤ (s.size : Int)
  · have ht : (s.extract 0 1).toList = s.data.toList.take 1 := by rw [Lib.extract_toList]; simp
    by_cases h2 : (s.extract 0 1).toList = [47]
    · have hb : ((s.extract 0 1).toList == [47]) = true := by rw [h2]; rfl
      have hfin : Hid (PrePost s w (.returned (.tuple #[.string (s.extract 1 s.size), .bool true])) w) := by
        refine ⟨rfl, .inl ⟨s.data.toList.drop 1, ?_, ?_⟩⟩
        · have e := List.take_append_drop 1 s.data.toList
          rw [← ht, h2] at e
          exact e.symm
        · rw [Lib.extract_eq, List.take_of_length_le (by rw [List.length_drop, ← hsz]; exact Nat.le_refl _)]
      clear ht hsz h2
      go_enter Tryz.func163, Tryz.ntmps163
      go_wp2
      go_ret2
      exact hfin.out
    · have hb : ((s.extract 0 1).toList == [47]) = false := by rw [beq_eq_false_iff_ne]; exact h2
      have hfin : Hid (PrePost s w (.returned (.tuple #[.string s, .bool false])) w) := by
        refine ⟨rfl, .inr ⟨fun r e => h2 ?_, rfl⟩⟩
        rw [ht, e]; rfl
      clear ht hsz h2
      go_enter Tryz.func163, Tryz.ntmps163
      go_wp2
      go_ret2
      exact hfin.out
  · have hfin : Hid (PrePost s w (.returned (.tuple #[.string s, .bool false])) w) := by
      refine ⟨rfl, .inr ⟨fun r e => ?_, rfl⟩⟩
      rw [hsz, e] at h1
      simp at h1
      omega
    clear hsz
    go_enter Tryz.func163, Tryz.ntmps163
    go_wp2
    go_ret2
    exact hfin.out
end

section
open Go.RowKit Go.Shelf
attribute [local go_sem] Oper.semAt_some
/-- A text that comes out of another of at most so many bytes. -/
abbrev Piece := { b : ByteArray // b.size ≤ 4000000 }
def names (xs : List Piece) : List Str := xs.map fun x => x.1.data.toList
theorem names_snoc (xs : List Piece) (x : Piece) : names (xs ++ [x]) = names xs ++ [x.1.data.toList] := by simp [names]
theorem names_length (xs : List Piece) : (names xs).length = xs.length := by simp [names]
/-- What is still to come. -/
def restOf : Bool → Str → List Str
  | true, r => pieces r
  | false, _ => []
/-- How much is still to come. -/
def leftOf (r m : Value) : Nat := match r, m with
  | .string s, .bool true => s.size + 1
  | _, _ => 0
set_option maxRecDepth 100000 in
set_option maxHeartbeats 1000000 in
theorem names1 (n l Bn n₀ : Nat) (hn : 1 ≤ n) (s : ByteArray) (hs : s.size ≤ 4000000) (J Jx : List Piece → World → Prop) (hJd : ∀ pre W n, J pre W → J pre (W.drewN n))
    (hY : ∀ pre x W, J pre W → pre.length < (pieces s.data.toList).length → YieldAt Fence.wide (n - 1) Tryz.prog l #[.string x.1] W fun e W' =>
      (e = .returned (.bool true) ∧ J (pre ++ [x]) W' ∧ Below n₀ W W') ∨ (e = .returned (.bool false) ∧ Jx (pre ++ [x]) W'))
    (W : World) (hc : W.cell? ⟨Bn, 0, none⟩ = some (.string s)) (h0 : J [] W) :
    CallsIn Fence.wide n Tryz.prog 220 #[.func (.yield l) #[] #[], .pointer (some ⟨Bn, 0, none⟩)] W fun e W' => (∃ v, e = .returned v) ∧
      ((∃ ys, names ys = pieces s.data.toList ∧ J ys W') ∨ (∃ pre, names pre <+: pieces s.data.toList ∧ Jx pre W')) := by
  refine callsIn_of_wp Tryz.func220 rfl trivial ?_ rfl
  simp only [Tryz.ntmps220, List.size_toArray, List.length_cons, List.length_nil, Nat.reduceAdd, Nat.reduceSub, Array.replicate_succ, Array.replicate_zero, List.push_toArray, List.append_toArray, List.nil_append, List.cons_append]
  gi_wp2
  gi_loopw [3, 4] (fun p q wr => ∃ (pre : List Piece) (r : ByteArray) (m : Bool), p = .string r ∧ q = .bool m ∧ r.size ≤ s.size ∧ J pre wr ∧ Hid (pieces s.data.toList = names pre ++ restOf m r.data.toList))
    (fun p q _ => leftOf p q)
  case atStart => exact ⟨[], s, true, rfl, rfl, Nat.le_refl _, h0, rfl⟩
  case round =>
    obtain ⟨pre, r, m, rfl, rfl, hr, hJ, hp⟩ := hrel
    cases m with
    | false =>
      gi_wp2
      go_end0
      exact ⟨⟨_, rfl⟩, .inl ⟨pre, by rw [hp.out]; simp [restOf], hJ⟩⟩
    | true =>
      have hpl : pre.length < (pieces s.data.toList).length := by
        have h1 := congrArg List.length hp.out
        have h2 : 0 < (pieces r.data.toList).length := List.length_pos_iff.2 (pieces_ne _)
        simp only [restOf, List.length_append, names_length] at h1
        omega
      gi_wp2_with fail
      refine ⟨trivial, (callsIn_wide.2 (cut_any r wr (by omega))).mono ?_⟩
      rintro e w1 (⟨rfl, h47, d, rfl⟩ | ⟨b, a, rfl, hra, h47, d, rfl⟩)
      · -- no slash more: the last name
        have hpx : Hid (pieces s.data.toList = names (pre ++ [⟨r, by omega⟩])) := by
          show _ = _
          rw [hp.out, names_snoc]
          simp only [restOf]
          rw [pieces_miss _ h47]
        obtain ⟨fn, tmps, assign, body, hy, hR⟩ := hY pre ⟨r, by omega⟩ _ (hJd _ _ d hJ) hpl
        gi_wp2
        refine hR.mono ?_
        rintro e W3 (⟨rfl, hJ3, hk3⟩ | ⟨rfl, hJx3⟩)
        · gi_wp2
          go_roundw
          case rel => exact ⟨_, _, false, rfl, rfl, Nat.zero_le _, hJ3, show _ = _ by rw [hpx.out]; simp [restOf]⟩
          case measure => simp [leftOf]
        · gi_wp2
          refine bodyPost_ret (results_none rfl _ _ _) rfl ?_
          exact ⟨⟨_, rfl⟩, .inr ⟨_, by rw [hpx.out]; exact List.prefix_refl _, hJx3⟩⟩
      · -- a name, a slash and the rest
        have hlen : r.size = b.size + 1 + a.size := by
          have := congrArg List.length hra
          rw [List.length_append, List.length_cons, ← Lib.size_eq, ← Lib.size_eq, ← Lib.size_eq] at this
          omega
        have hpx : Hid (pieces s.data.toList = names (pre ++ [⟨b, by omega⟩]) ++ pieces a.data.toList) := by
          show _ = _
          rw [hp.out, names_snoc]
          simp only [restOf]
          rw [hra, pieces_hit _ _ h47, List.append_assoc]
          rfl
        obtain ⟨fn, tmps, assign, body, hy, hR⟩ := hY pre ⟨b, by omega⟩ _ (hJd _ _ d hJ) hpl
        gi_wp2
        refine hR.mono ?_
        rintro e W3 (⟨rfl, hJ3, hk3⟩ | ⟨rfl, hJx3⟩)
        · gi_wp2
          go_roundw
          case rel => exact ⟨_, _, true, rfl, rfl, by omega, hJ3, hpx⟩
          case measure => simp [leftOf]; omega
        · gi_wp2
          refine bodyPost_ret (results_none rfl _ _ _) rfl ?_
          exact ⟨⟨_, rfl⟩, .inr ⟨_, by rw [hpx.out]; exact List.prefix_append _ _, hJx3⟩⟩
set_option maxHeartbeats 1000000 in
theorem namesBetween_in (n : Nat) (s : ByteArray) (w : World) :
    CallsIn Fence.wide n Tryz.prog 164 #[.string s] w fun e w' => e = .returned (.func (.func 220) #[] #[.pointer (some ⟨w.heap.size, 0, none⟩)]) ∧ w' = w.alloc (.cells #[.string s] 9) := by
  refine callsIn_of_wp Tryz.func164 rfl trivial ?_ rfl
  simp only [Tryz.ntmps164, List.size_toArray, List.length_cons, List.length_nil, Nat.reduceAdd, Nat.reduceSub, Array.replicate_succ, Array.replicate_zero, List.push_toArray, List.append_toArray, List.nil_append, List.cons_append]
  gi_wp2
  go_ret
  exact ⟨rfl, rfl⟩
theorem names_stops (n Bn n₀ : Nat) (hn : 1 ≤ n) (s : ByteArray) (hs : s.size ≤ 4000000) (w : World) (hBn : Bn < w.heap.size) (hc : w.cell? ⟨Bn, 0, none⟩ = some (.string s)) :
    SeqStopsK Fence.wide n Tryz.prog 220 #[.pointer (some ⟨Bn, 0, none⟩)] (fun x : Piece => #[Value.string x.1]) (Below n₀) (fun ys => names ys = pieces s.data.toList) (fun pre => names pre <+: pieces s.data.toList) (pieces s.data.toList).length w := fun l J Jx W hW hJ _ hY h0 =>
  names1 n l Bn n₀ hn s hs J Jx (fun pre W' d h => hJ pre W' (W'.drewN d) none h ⟨rfl, rfl, rfl, Nat.le_refl _, fun _ _ _ => rfl⟩ (by intro r e; simp at e)) hY W ((hW.cell (p := ⟨Bn, 0, none⟩) hBn).trans hc) h0
end

section
open Go.RowKit Go.Shelf
attribute [local go_sem] Oper.semAt_some
theorem Tryz.info9 : (Tryz.prog.info? 9).map (fun i => (i.zero, i.size, i.bytes)) = some (some (.string ⟨#[]⟩), 1, 16) := by kernel_rfl
/-- The block g is the call's own row of texts. -/
def OwnS (w : World) (g n cap : Nat) (zs : List ByteArray) : Prop := w.ownsRow 0 9 1 (.slice (some ⟨g, 0, none⟩) n cap) n (zs.map Value.string)
def strs (zs : List ByteArray) : List Str := zs.map fun z => z.data.toList
/-- What both SplitPath functions answer. -/
def SpPost (s : ByteArray) (w : World) (e : Ending) (w' : World) : Prop := Below w.heap.size w w' ∧
  ((splitOf s.data.toList = none ∧ ∃ a c, e = .returned (.tuple #[.slice a 0 c, .bool false])) ∨
   (∃ zs g c, splitOf s.data.toList = some (strs zs) ∧ e = .returned (.tuple #[.slice (some ⟨g, 0, none⟩) zs.length c, .bool true]) ∧ w.heap.size ≤ g ∧ OwnS w' g zs.length c zs))
theorem boxed_below {W W' : World} {B : Nat} {t : TypeId} {v : Value} (hb : Below W.heap.size W W') (h : Boxed W B t v) : Boxed W' B t v := (hb.block B h.lt).trans h
theorem row_below {W W' : World} {base k : Nat} {e : TypeId} {v : Value} {xs : List Value} (hb : Below W.heap.size W W') (h : W.ownsRow base e 1 v k xs) : W'.ownsRow base e 1 v k xs := by
  refine ⟨h.1, ?_⟩
  rcases h.2 with h' | ⟨g', cap', cur, h', hb', hgg, rest⟩
  · exact .inl h'
  · exact .inr ⟨g', cap', cur, h', hb', (hb.block g' (Array.getElem?_eq_some_iff.1 hgg).1).trans hgg, rest⟩
theorem row_base {W : World} {base k : Nat} {e : TypeId} {v : Value} {xs : List Value} (h : W.ownsRow base e 1 v k xs) : W.ownsRow 0 e 1 v k xs := by
  refine ⟨h.1, ?_⟩
  rcases h.2 with h' | ⟨g', cap', cur, h', _, rest⟩
  · exact .inl h'
  · exact .inr ⟨g', cap', cur, h', Nat.zero_le _, rest⟩
theorem keeps_below {W W' : World} (hb : Below W.heap.size W W') : KeepsOthers W W' := ⟨hb.size, fun k _ hk _ => (hb.block k (Array.getElem?_eq_some_iff.1 hk).1).trans hk⟩
/-- The same as a step of a region that draws its order. -/
theorem stepS_in {F : Fence} {m : Nat} {ops : Array Oper} {o : Oper} {a : Act} {w : World} {K : Act → World → Prop} {Q : Exit → Act → World → Prop} {E : Prop} (hgd : o.guard = none) (s x : Operand)
    (ho : o.op = .call { callee := .builtin .append, args := #[s, x], argTypes := #[54, 54] })
    (base g k c : Nat) (xs : List Value) (hs : a.eval s = .slice (some ⟨g, 0, none⟩) k c) (hown : w.ownsRow base 9 1 (.slice (some ⟨g, 0, none⟩) k c) k xs)
    (ad : Nat) (z : ByteArray) (hx : a.eval x = .slice (some ⟨ad, 0, none⟩) 1 1) (hcell : w.cell? ⟨ad, 0, none⟩ = some (.string z)) (hk : k ≤ 1000000) (hb : base ≤ w.heap.size)
    (h : ∀ g' c' w', w'.ownsRow base 9 1 (.slice (some ⟨g', 0, none⟩) (k + 1) c') (k + 1) (xs ++ [.string z]) → w.grownBy w' (some g) → K (a.put o.dst (.slice (some ⟨g', 0, none⟩) (k + 1) c')) w') :
    if Region.wanted o (yielded ops a.tmps) = true then Oper.wpIn F m Tryz.prog o a w K Q else E := by
  have hw : Region.wanted o (yielded ops a.tmps) = true := by simp [Region.wanted, hgd]
  rw [if_pos hw]
  obtain ⟨i0, hi, hz0, hz1, hz2⟩ := info_parts Tryz.info9
  obtain ⟨v', w', hrun, r1, r2, _⟩ := run_append_own (P := Tryz.prog) w base 54 o.type 9 i0 (.string ⟨#[]⟩) 1 16 Tryz.underlying54 hi hz0 hz1 hz2 rfl (by decide) _ k xs hown ⟨ad, 0, none⟩ 1 1 [.string z] rfl (by
    intro j u hj
    cases j with
    | zero => simp at hj; subst hj; simpa [Addr.add] using hcell
    | succ j => simp at hj) (by simp [Value.oneCell']) (by unfold maxLen; omega) (by omega) hb
  obtain ⟨g', c', rfl⟩ := ownsRow_succ r1
  unfold Oper.wpIn
  refine ⟨?_, ?_⟩
  · simp [Oper.about, ho, resolve, Target.leads, Sem.run_pure]
  · rw [Oper.semAt_plain F _ _ (by rw [ho]; intro c hc'; cases hc')]
    simp [execOp, ho, resolve, invoke, builtin, hs, hx, hrun, Result.andThen]
    exact h g' c' w' r1 r2
set_option maxRecDepth 100000 in
set_option maxHeartbeats 2000000 in
theorem splitI (s : ByteArray) (w : World) (hs : s.size ≤ 4000000) : Calls Tryz.prog 111 #[.string s] w (SpPost s w) := by
  obtain ⟨i0, hi, hz0, hz1, hz2⟩ := info_parts Tryz.info9
  refine (callsIn_wide (n := 5)).1 ?_
  refine callsIn_of_wp_marks Tryz.func111 rfl trivial ?_ rfl
  simp only [Tryz.ntmps111, List.size_toArray, List.length_cons, List.length_nil, Nat.reduceAdd, Nat.reduceSub, Array.replicate_succ, Array.replicate_zero, List.push_toArray, List.append_toArray, List.nil_append, List.cons_append]
  gi_wp2_with fail
  refine ⟨trivial, (callsIn_wide.2 (prefix_any s _)).mono ?_⟩
  rintro e w1 ⟨rfl, (⟨r, hr, rfl⟩ | ⟨hno, rfl⟩)⟩
  · have hrs : r.length + 1 = s.size := by rw [Lib.size_eq, hr]; rfl
    by_cases h0 : r = []
    · subst h0
      have hsp : splitOf s.data.toList = some [] := by rw [hr]; decide
      gi_wp2
      refine ⟨.tuple #[.slice (some ⟨w.heap.size + 1 + 1, 0, none⟩) 0 0, .bool true], ?_, ?_⟩
      · simp [results, Tryz.f111, go_sem]
      · refine ⟨((((Below.refl _ w).alloc (Nat.le_refl _) _).alloc (by simp) _).alloc (by simp; omega) _).alloc (by simp; omega) _, .inr ⟨[], _, _, hsp, rfl, by omega, ?_⟩⟩
        have := World.ownsRow_made (base := 0) (e := 9) (size := 1) ((w.alloc (.cells #[.slice (some ⟨w.heap.size + 1 + 1, 0, none⟩) 0 0] 54)).alloc (.cells #[.bool true] 4)) #[] 0 (Nat.zero_le _) (by unfold maxLen; omega) rfl
        simp only [World.size_alloc] at this
        exact World.ownsRow.alloc this _
    · have hb : (r == []) = false := by simpa using h0
      gi_wp2_with fail
      refine ⟨trivial, (namesBetween_in _ _ _).mono ?_⟩
      rintro e w1 ⟨rfl, rfl⟩
      gi_wp2_with fail
      have hB0 : Below w.heap.size w (((((w.alloc (.cells #[.slice none 0 0] 54)).alloc (.cells #[.bool false] 4)).alloc (.cells #[] 9)).alloc (.cells #[.slice (some ⟨w.heap.size + 1 + 1, 0, none⟩) 0 0] 54)).alloc (.cells #[.string ⟨r.toArray⟩] 9)) :=
        (((((Below.refl _ w).alloc (Nat.le_refl _) _).alloc (by simp) _).alloc (by simp; omega) _).alloc (by simp; omega) _).alloc (by simp; omega) _
      have b0 := ((((Boxed.new w 54 (.slice none 0 0)).alloc (.cells #[.bool false] 4)).alloc (.cells #[] 9)).alloc (.cells #[.slice (some ⟨w.heap.size + 1 + 1, 0, none⟩) 0 0] 54)).alloc (.cells #[.string ⟨r.toArray⟩] 9)
      have b1 := (((Boxed.new (w.alloc (.cells #[.slice none 0 0] 54)) 4 (.bool false)).alloc (.cells #[] 9)).alloc (.cells #[.slice (some ⟨w.heap.size + 1 + 1, 0, none⟩) 0 0] 54)).alloc (.cells #[.string ⟨r.toArray⟩] 9)
      have b3 := (Boxed.new (((w.alloc (.cells #[.slice none 0 0] 54)).alloc (.cells #[.bool false] 4)).alloc (.cells #[] 9)) 54 (.slice (some ⟨w.heap.size + 1 + 1, 0, none⟩) 0 0)).alloc (.cells #[.string ⟨r.toArray⟩] 9)
      have b4 := Boxed.new ((((w.alloc (.cells #[.slice none 0 0] 54)).alloc (.cells #[.bool false] 4)).alloc (.cells #[] 9)).alloc (.cells #[.slice (some ⟨w.heap.size + 1 + 1, 0, none⟩) 0 0] 54)) 9 (.string ⟨r.toArray⟩)
      have o2 := World.ownsRow_made (base := w.heap.size) (e := 9) (size := 1) ((w.alloc (.cells #[.slice none 0 0] 54)).alloc (.cells #[.bool false] 4)) #[] 0 (by simp; omega) (by unfold maxLen; omega) rfl
      have o2' := World.ownsRow.alloc (World.ownsRow.alloc o2 (.cells #[.slice (some ⟨w.heap.size + 1 + 1, 0, none⟩) 0 0] 54)) (.cells #[.string ⟨r.toArray⟩] 9)
      simp only [World.size_alloc] at b1 b3 b4 o2'
      clear o2
      have hsp : splitOf s.data.toList = if good (pieces r) then some (pieces r) else none := by rw [hr, splitOf_cons, if_pos rfl, if_neg h0]
      have hrsz : (⟨r.toArray⟩ : ByteArray).size ≤ 4000000 := by rw [Lib.size_eq]; simp; omega
      obtain ⟨W0, hW0⟩ : ∃ W0, (((((w.alloc (.cells #[.slice none 0 0] 54)).alloc (.cells #[.bool false] 4)).alloc (.cells #[] 9)).alloc (.cells #[.slice (some ⟨w.heap.size + 1 + 1, 0, none⟩) 0 0] 54)).alloc (.cells #[.string ⟨r.toArray⟩] 9)) = W0 := ⟨_, rfl⟩
      have hsz0 : W0.heap.size = w.heap.size + 5 := by rw [← hW0]; simp
      rw [hW0] at b0 b1 b3 b4 o2' hB0 ⊢
      clear hW0
      refine wpIn_rangeFunc_ownG rfl (by omega) (gf := 220) (lb := #[.pointer (some ⟨w.heap.size + 1 + 1 + 1 + 1, 0, none⟩)]) rfl trivial (enters_of Tryz.func220 (by kernel_rfl) rfl)
        (names_stops _ (w.heap.size + 1 + 1 + 1 + 1) w.heap.size (by omega) ⟨r.toArray⟩ hrsz W0 (by omega) b4.cell) belowK_t (belowK_b (by omega)) (Below.refl _ _) (fun _ => rfl)
        (fun pre W => ((∃ v, Boxed W (w.heap.size + 1 + 1 + 1) 54 v ∧ W.ownsRow w.heap.size 9 1 v pre.length (pre.map fun x => Value.string x.1) ∧ ∃ g c, v = .slice (some ⟨g, 0, none⟩) pre.length c) ∧ (Boxed W w.heap.size 54 (.slice none 0 0) ∧ Boxed W (w.heap.size + 1) 4 (.bool false) ∧ good (names pre) = true)) ∧ Below w.heap.size w W)
        (fun c pre W => ((c = .ret ∧ good (names pre) = false) ∧ (Boxed W w.heap.size 54 (.slice none 0 0) ∧ Boxed W (w.heap.size + 1) 4 (.bool false))) ∧ Below w.heap.size w W)
        (OwnFrom.and (OwnFrom.and (Own.from (holdsRow_own w.heap.size (w.heap.size + 1 + 1 + 1) 54 9 1 (fun pre : List Piece => pre.length) (fun pre => pre.map fun x => Value.string x.1) (fun pre v => ∃ g c, v = .slice (some ⟨g, 0, none⟩) pre.length c)) _) (OwnFrom.and (Own.from (boxed_own _ _ _) _) (OwnFrom.and (Own.from (boxed_own _ _ _) _) (ownFrom_pure _ _)))) (ownFrom_below (Nat.le_refl _) (by omega)))
        (fun c => OwnFrom.and (OwnFrom.and (ownFrom_pure _ _) (OwnFrom.and (Own.from (boxed_own _ _ _) _) (Own.from (boxed_own _ _ _) _))) (ownFrom_below (Nat.le_refl _) (by omega)))
        ⟨⟨⟨_, b3, o2', _, _, rfl⟩, b0, b1, rfl⟩, hB0⟩
        (fun x => { tmps := #[.string s, undef, .pointer (some ⟨w.heap.size, 0, none⟩), .pointer (some ⟨w.heap.size + 1, 0, none⟩), .string ⟨r.toArray⟩,
          .bool true, .pointer (some ⟨w.heap.size + 1 + 1 + 1, 0, none⟩), .string x.1, .tuple #[.string ⟨r.toArray⟩, .bool true], .string s, .tuple #[.string ⟨r.toArray⟩, .bool true], .string ⟨r.toArray⟩, .bool true, .bool true, .bool false,
          .slice (some ⟨w.heap.size + 1 + 1, 0, none⟩) 0 0, .string ⟨r.toArray⟩, .bool false, undef, .string ⟨r.toArray⟩,
          .func (.func 220) #[] #[.pointer (some ⟨w.heap.size + 1 + 1 + 1 + 1, 0, none⟩)], .string x.1, undef, undef, undef, undef, undef, undef, undef, undef, undef, undef, undef, undef, undef, undef], defers := [] }) ?assign ?body ?done ?stop
      case assign =>
        intro l x W K hK
        gi_wp2
        exact hK
      case body =>
        rintro l pre x W ⟨⟨⟨v, hv, hrow, g, c, rfl⟩, hr0, hr1, hgd⟩, hB⟩ hlt
        have hc := hv.cell
        have c0 := hr0.cell
        have f0 := hr0.frozen
        have c1 := hr1.cell
        have f1 := hr1.frozen
        have hstop : ∀ x : Piece, (pre.length = 30 ∨ nameOk x.1.data.toList = false) → KeepsFrom W0.heap.size W ((W.setCell ⟨w.heap.size, 0, none⟩ (.slice none 0 0)).setCell ⟨w.heap.size + 1, 0, none⟩ (.bool false)) ∧ (good (names (pre ++ [x])) = false ∧ (Boxed ((W.setCell ⟨w.heap.size, 0, none⟩ (.slice none 0 0)).setCell ⟨w.heap.size + 1, 0, none⟩ (.bool false)) w.heap.size 54 (.slice none 0 0) ∧ Boxed ((W.setCell ⟨w.heap.size, 0, none⟩ (.slice none 0 0)).setCell ⟨w.heap.size + 1, 0, none⟩ (.bool false)) (w.heap.size + 1) 4 (.bool false))) ∧ Below w.heap.size w ((W.setCell ⟨w.heap.size, 0, none⟩ (.slice none 0 0)).setCell ⟨w.heap.size + 1, 0, none⟩ (.bool false)) := by
          intro x hbad
          refine ⟨((KeepsOthers.setCell _ _ _).trans (KeepsOthers.setCell _ _ _)).from _, ⟨?_, (hr0.set _).other (by omega) _, (hr1.other (by omega) _).set _⟩, (hB.setCell (p := ⟨w.heap.size, 0, none⟩) (Nat.le_refl _) _).setCell (p := ⟨w.heap.size + 1, 0, none⟩) (by simp) _⟩
          rw [names_snoc]
          exact spGo_none_or [] _ _ (hbad.symm.imp_right (by rw [names_length]; exact id))
        have Hstop : Hid _ := hstop
        clear hstop
        by_cases h30 : pre.length = 30
        · have h30' : (pre.length : Int) = 30 := by omega
          gi_wp2
          refine ⟨trivial, ?_⟩
          gi_wp2
          have h := Hstop.out x (.inl h30)
          exact ⟨h.1, ⟨⟨rfl, h.2.1.1⟩, h.2.1.2⟩, h.2.2⟩
        · have h30' : ¬ (pre.length : Int) = 30 := by omega
          have h30b : ((pre.length : Int) == 30) = false := by simpa using h30'
          gi_wp2_with fail
          refine ⟨trivial, (CallsIn.inRound l (callsIn_wide.2 (nameI x.1 W x.2))).mono ?_⟩
          rintro e w1 ⟨rfl, hw⟩
          obtain rfl := hw.symm
          cases hnm : nameOk x.1.data.toList with
          | false =>
            gi_wp2
            have h := Hstop.out x (.inr hnm)
            exact ⟨h.1, ⟨⟨rfl, h.2.1.1⟩, h.2.1.2⟩, h.2.2⟩
          | true =>
            clear Hstop
            have hgd' : Hid (good (names (pre ++ [x])) = true) := by
              show _ = _
              rw [names_snoc]
              refine good_of (by simp [names_length]; have := good_len hgd; rw [names_length] at this; omega) (fun z hz => ?_)
              simp only [List.mem_append, List.mem_cons, List.not_mem_nil, or_false] at hz
              rcases hz with hz | rfl
              · exact good_all hgd z hz
              · exact hnm
            have hlen : pre.length < 30 := by have := good_len hgd; rw [names_length] at this; omega
            have hmx : Tryz.prog.follows .mixedOrders = true := by kernel_rfl
            clear hgd c0 f0 c1 f1 h30b
            have hwsz := hB.size
            have hf39 : Fence.wide.fn 140 := trivial
            gi_wp2
            refine wpIn_region_any hmx ?_
            change wpAnyIn _ _ _ _ _ _ _ _ _ (World.drew _)
            refine wpAnyIn_ready (rs := [0, 1]) (by kernel_rfl) (by simp) (AllReadyIn.cons rfl (fun K hK => ?a0) (AllReadyIn.cons rfl (fun K hK => ?a1) AllReadyIn.nil))
            case a0 =>
              go_simp
              refine hK _ _ ?_; clear hK K
              refine wpAnyIn_ready (rs := [1]) (by kernel_rfl) (by simp) (AllReadyIn.cons rfl (fun K hK => ?_) AllReadyIn.nil)
              go_simp
              refine hK _ _ ?_; clear hK K
              refine wpAnyIn_ready (rs := [2]) (by kernel_rfl) (by simp) (AllReadyIn.cons rfl (fun K hK => ?_) AllReadyIn.nil)
              go_simp
              refine (CallsIn.inRound l (callsIn_wide.2 (strClone x.1 _ x.2))).mono ?_
              rintro e w1 ⟨rfl, hbc⟩
              refine hK _ _ ?_; clear hK K
              have hv1 := boxed_below hbc hv
              have hrow1 := row_below hbc hrow
              have hc1 := hv1.cell
              have hs1 := hbc.size
              refine wpAnyIn_ready (rs := [3]) (by kernel_rfl) (by simp) (AllReadyIn.cons rfl (fun K hK => ?_) AllReadyIn.nil)
              go_simp
              refine hK _ _ ?_; clear hK K
              refine wpAnyIn_ready (rs := [4]) (by kernel_rfl) (by simp) (AllReadyIn.cons rfl (fun K hK => ?_) AllReadyIn.nil)
              refine stepS_in rfl (.tmp 30) (.tmp 33) rfl w.heap.size g pre.length c (pre.map fun x => Value.string x.1) rfl (hrow1.alloc _) w1.heap.size x.1 rfl (Boxed.new w1 9 (.string x.1)).cell (by omega) (by simp only [World.size_alloc]; exact Nat.le_trans hwsz (Nat.le_trans hs1 (Nat.le_succ _))) ?_
              intro g' cap' w2 hown' hgrow
              refine hK _ _ ?_; clear hK K
              obtain ⟨hv1', hv2, hr2, hk2, hb2⟩ := hv1.appended (by decide) hrow1 (Nat.le_trans hwsz hs1) (by omega) hown' hgrow
              have hc2 := hv1'.cell
              have hf2 := hv1'.frozen
              refine wpAnyIn_ready (rs := [5]) (by kernel_rfl) (by simp) (AllReadyIn.cons rfl (fun K hK => ?_) AllReadyIn.nil)
              go_simp
              refine hK _ _ ?_; clear hK K
              refine wpAnyIn_done (by kernel_rfl) ?_ _
              have q0 := (((boxed_below hbc hr0).alloc (.cells #[.string x.1] 9)).kept hgrow ((boxed_below hbc hr0).not_row (by decide) hrow1)).other (B' := w.heap.size + 1 + 1 + 1) (by omega) (.slice (some ⟨g', 0, none⟩) (pre.length + 1) cap')
              have q1 := (((boxed_below hbc hr1).alloc (.cells #[.string x.1] 9)).kept hgrow ((boxed_below hbc hr1).not_row (by decide) hrow1)).other (B' := w.heap.size + 1 + 1 + 1) (by omega) (.slice (some ⟨g', 0, none⟩) (pre.length + 1) cap')
              have hbb : Below w.heap.size W (w2.setCell ⟨w.heap.size + 1 + 1 + 1, 0, none⟩ (.slice (some ⟨g', 0, none⟩) (pre.length + 1) cap')) := (Below.refl _ W).drew.trans ((hbc.mono hwsz).trans hb2)
              exact ⟨((KeepsOthers.drew W).trans ((keeps_below hbc).trans hk2)).from _, hbb, ⟨⟨_, hv2, by simpa using hr2, g', cap', by simp⟩, q0, q1, hgd'.out⟩, hB.trans hbb⟩
            case a1 =>
              go_simp
              refine hK _ _ ?_; clear hK K
              refine wpAnyIn_ready (rs := [0, 2]) (by kernel_rfl) (by simp) (AllReadyIn.cons rfl (fun K hK => ?b0) (AllReadyIn.cons rfl (fun K hK => ?b1) AllReadyIn.nil))
              case b0 =>
                go_simp
                refine hK _ _ ?_; clear hK K
                refine wpAnyIn_ready (rs := [2]) (by kernel_rfl) (by simp) (AllReadyIn.cons rfl (fun K hK => ?_) AllReadyIn.nil)
                go_simp
                refine (CallsIn.inRound l (callsIn_wide.2 (strClone x.1 _ x.2))).mono ?_
                rintro e w1 ⟨rfl, hbc⟩
                refine hK _ _ ?_; clear hK K
                have hv1 := boxed_below hbc hv
                have hrow1 := row_below hbc hrow
                have hc1 := hv1.cell
                have hs1 := hbc.size
                refine wpAnyIn_ready (rs := [3]) (by kernel_rfl) (by simp) (AllReadyIn.cons rfl (fun K hK => ?_) AllReadyIn.nil)
                go_simp
                refine hK _ _ ?_; clear hK K
                refine wpAnyIn_ready (rs := [4]) (by kernel_rfl) (by simp) (AllReadyIn.cons rfl (fun K hK => ?_) AllReadyIn.nil)
                refine stepS_in rfl (.tmp 30) (.tmp 33) rfl w.heap.size g pre.length c (pre.map fun x => Value.string x.1) rfl (hrow1.alloc _) w1.heap.size x.1 rfl (Boxed.new w1 9 (.string x.1)).cell (by omega) (by simp only [World.size_alloc]; exact Nat.le_trans hwsz (Nat.le_trans hs1 (Nat.le_succ _))) ?_
                intro g' cap' w2 hown' hgrow
                refine hK _ _ ?_; clear hK K
                obtain ⟨hv1', hv2, hr2, hk2, hb2⟩ := hv1.appended (by decide) hrow1 (Nat.le_trans hwsz hs1) (by omega) hown' hgrow
                have hc2 := hv1'.cell
                have hf2 := hv1'.frozen
                refine wpAnyIn_ready (rs := [5]) (by kernel_rfl) (by simp) (AllReadyIn.cons rfl (fun K hK => ?_) AllReadyIn.nil)
                go_simp
                refine hK _ _ ?_; clear hK K
                refine wpAnyIn_done (by kernel_rfl) ?_ _
                have q0 := (((boxed_below hbc hr0).alloc (.cells #[.string x.1] 9)).kept hgrow ((boxed_below hbc hr0).not_row (by decide) hrow1)).other (B' := w.heap.size + 1 + 1 + 1) (by omega) (.slice (some ⟨g', 0, none⟩) (pre.length + 1) cap')
                have q1 := (((boxed_below hbc hr1).alloc (.cells #[.string x.1] 9)).kept hgrow ((boxed_below hbc hr1).not_row (by decide) hrow1)).other (B' := w.heap.size + 1 + 1 + 1) (by omega) (.slice (some ⟨g', 0, none⟩) (pre.length + 1) cap')
                have hbb : Below w.heap.size W (w2.setCell ⟨w.heap.size + 1 + 1 + 1, 0, none⟩ (.slice (some ⟨g', 0, none⟩) (pre.length + 1) cap')) := (Below.refl _ W).drew.trans ((hbc.mono hwsz).trans hb2)
                exact ⟨((KeepsOthers.drew W).trans ((keeps_below hbc).trans hk2)).from _, hbb, ⟨⟨_, hv2, by simpa using hr2, g', cap', by simp⟩, q0, q1, hgd'.out⟩, hB.trans hbb⟩
              case b1 =>
                go_simp
                refine (CallsIn.inRound l (callsIn_wide.2 (strClone x.1 _ x.2))).mono ?_
                rintro e w1 ⟨rfl, hbc⟩
                refine hK _ _ ?_; clear hK K
                have hv1 := boxed_below hbc hv
                have hrow1 := row_below hbc hrow
                have hc1 := hv1.cell
                have hs1 := hbc.size
                refine wpAnyIn_ready (rs := [0, 3]) (by kernel_rfl) (by simp) (AllReadyIn.cons rfl (fun K hK => ?c0) (AllReadyIn.cons rfl (fun K hK => ?c1) AllReadyIn.nil))
                case c0 =>
                  go_simp
                  refine hK _ _ ?_; clear hK K
                  refine wpAnyIn_ready (rs := [3]) (by kernel_rfl) (by simp) (AllReadyIn.cons rfl (fun K hK => ?_) AllReadyIn.nil)
                  go_simp
                  refine hK _ _ ?_; clear hK K
                  refine wpAnyIn_ready (rs := [4]) (by kernel_rfl) (by simp) (AllReadyIn.cons rfl (fun K hK => ?_) AllReadyIn.nil)
                  refine stepS_in rfl (.tmp 30) (.tmp 33) rfl w.heap.size g pre.length c (pre.map fun x => Value.string x.1) rfl (hrow1.alloc _) w1.heap.size x.1 rfl (Boxed.new w1 9 (.string x.1)).cell (by omega) (by simp only [World.size_alloc]; exact Nat.le_trans hwsz (Nat.le_trans hs1 (Nat.le_succ _))) ?_
                  intro g' cap' w2 hown' hgrow
                  refine hK _ _ ?_; clear hK K
                  obtain ⟨hv1', hv2, hr2, hk2, hb2⟩ := hv1.appended (by decide) hrow1 (Nat.le_trans hwsz hs1) (by omega) hown' hgrow
                  have hc2 := hv1'.cell
                  have hf2 := hv1'.frozen
                  refine wpAnyIn_ready (rs := [5]) (by kernel_rfl) (by simp) (AllReadyIn.cons rfl (fun K hK => ?_) AllReadyIn.nil)
                  go_simp
                  refine hK _ _ ?_; clear hK K
                  refine wpAnyIn_done (by kernel_rfl) ?_ _
                  have q0 := (((boxed_below hbc hr0).alloc (.cells #[.string x.1] 9)).kept hgrow ((boxed_below hbc hr0).not_row (by decide) hrow1)).other (B' := w.heap.size + 1 + 1 + 1) (by omega) (.slice (some ⟨g', 0, none⟩) (pre.length + 1) cap')
                  have q1 := (((boxed_below hbc hr1).alloc (.cells #[.string x.1] 9)).kept hgrow ((boxed_below hbc hr1).not_row (by decide) hrow1)).other (B' := w.heap.size + 1 + 1 + 1) (by omega) (.slice (some ⟨g', 0, none⟩) (pre.length + 1) cap')
                  have hbb : Below w.heap.size W (w2.setCell ⟨w.heap.size + 1 + 1 + 1, 0, none⟩ (.slice (some ⟨g', 0, none⟩) (pre.length + 1) cap')) := (Below.refl _ W).drew.trans ((hbc.mono hwsz).trans hb2)
                  exact ⟨((KeepsOthers.drew W).trans ((keeps_below hbc).trans hk2)).from _, hbb, ⟨⟨_, hv2, by simpa using hr2, g', cap', by simp⟩, q0, q1, hgd'.out⟩, hB.trans hbb⟩
                case c1 =>
                  go_simp
                  refine hK _ _ ?_; clear hK K
                  have hc1a := (hv1.alloc (.cells #[.string x.1] 9)).cell
                  refine wpAnyIn_ready (rs := [0]) (by kernel_rfl) (by simp) (AllReadyIn.cons rfl (fun K hK => ?_) AllReadyIn.nil)
                  go_simp
                  refine hK _ _ ?_; clear hK K
                  refine wpAnyIn_ready (rs := [4]) (by kernel_rfl) (by simp) (AllReadyIn.cons rfl (fun K hK => ?_) AllReadyIn.nil)
                  refine stepS_in rfl (.tmp 30) (.tmp 33) rfl w.heap.size g pre.length c (pre.map fun x => Value.string x.1) rfl (hrow1.alloc _) w1.heap.size x.1 rfl (Boxed.new w1 9 (.string x.1)).cell (by omega) (by simp only [World.size_alloc]; exact Nat.le_trans hwsz (Nat.le_trans hs1 (Nat.le_succ _))) ?_
                  intro g' cap' w2 hown' hgrow
                  refine hK _ _ ?_; clear hK K
                  obtain ⟨hv1', hv2, hr2, hk2, hb2⟩ := hv1.appended (by decide) hrow1 (Nat.le_trans hwsz hs1) (by omega) hown' hgrow
                  have hc2 := hv1'.cell
                  have hf2 := hv1'.frozen
                  refine wpAnyIn_ready (rs := [5]) (by kernel_rfl) (by simp) (AllReadyIn.cons rfl (fun K hK => ?_) AllReadyIn.nil)
                  go_simp
                  refine hK _ _ ?_; clear hK K
                  refine wpAnyIn_done (by kernel_rfl) ?_ _
                  have q0 := (((boxed_below hbc hr0).alloc (.cells #[.string x.1] 9)).kept hgrow ((boxed_below hbc hr0).not_row (by decide) hrow1)).other (B' := w.heap.size + 1 + 1 + 1) (by omega) (.slice (some ⟨g', 0, none⟩) (pre.length + 1) cap')
                  have q1 := (((boxed_below hbc hr1).alloc (.cells #[.string x.1] 9)).kept hgrow ((boxed_below hbc hr1).not_row (by decide) hrow1)).other (B' := w.heap.size + 1 + 1 + 1) (by omega) (.slice (some ⟨g', 0, none⟩) (pre.length + 1) cap')
                  have hbb : Below w.heap.size W (w2.setCell ⟨w.heap.size + 1 + 1 + 1, 0, none⟩ (.slice (some ⟨g', 0, none⟩) (pre.length + 1) cap')) := (Below.refl _ W).drew.trans ((hbc.mono hwsz).trans hb2)
                  exact ⟨((KeepsOthers.drew W).trans ((keeps_below hbc).trans hk2)).from _, hbb, ⟨⟨_, hv2, by simpa using hr2, g', cap', by simp⟩, q0, q1, hgd'.out⟩, hB.trans hbb⟩
      case done =>
        rintro D ys W hD hys ⟨⟨⟨v, hv, hrow, g, c, rfl⟩, hr0, hr1, hgd⟩, hB⟩ hK
        have hc := hv.cell
        have c0 := hr0.cell
        have f0 := hr0.frozen
        have c1 := hr1.cell
        have f1 := hr1.frozen
        gi_wp2
        have hK' := ((KeepsOthers.setCell W ⟨w.heap.size, 0, none⟩ (.slice (some ⟨g, 0, none⟩) ys.length c)).trans (KeepsOthers.setCell _ ⟨w.heap.size + 1, 0, none⟩ (.bool true))).same D _ hK rfl
        have q0 := (hr0.set (.slice (some ⟨g, 0, none⟩) ys.length c)).other (B' := w.heap.size + 1) (by omega) (.bool true)
        have q1 := (hr1.other (B' := w.heap.size) (by omega) (.slice (some ⟨g, 0, none⟩) ys.length c)).set (.bool true)
        have d0 := cell_kept q0.cell (grownBy_putObj' _ D (.deferred none)) (fun r e => by cases e; exact ⟨_, hK', rfl⟩)
        have d1 := cell_kept q1.cell (grownBy_putObj' _ D (.deferred none)) (fun r e => by cases e; exact ⟨_, hK', rfl⟩)
        have hr1' := World.ownsRow.kept hrow (grownBy_setCell' W w.heap.size (.slice (some ⟨g, 0, none⟩) ys.length c)) (.inr (hr0.not_row (by decide) hrow).symm)
        have hr2' := World.ownsRow.kept hr1' (grownBy_setCell' _ (w.heap.size + 1) (.bool true)) (.inr ((hr1.other (B' := w.heap.size) (by omega) _).not_row (by decide) hr1').symm)
        have hr3' := ownsRow_putObj hr2' (.deferred none) hK' rfl
        have hgl := (World.ownsRow.lt hr3' g rfl).1
        have hbw := ((hB.setCell (p := ⟨w.heap.size, 0, none⟩) (Nat.le_refl _) (.slice (some ⟨g, 0, none⟩) ys.length c)).setCell (p := ⟨w.heap.size + 1, 0, none⟩) (by simp) (.bool true)).trans (belowK_b (w := W0) (by omega) _ D _ (.deferred none) hD hK' rfl rfl)
        refine ⟨by simp, .inl ⟨_, _, rfl, run_takeDeferred hK', ?_⟩⟩
        refine ⟨.tuple #[.slice (some ⟨g, 0, none⟩) ys.length c, .bool true], ?_, hbw, .inr ⟨ys.map (·.1), g, c, ?_, by simp, hgl, ?_⟩⟩
        · simp [results, Tryz.f111, go_sem, d0, d1]
        · have hys' : pieces r = names ys := hys.symm
          rw [hsp, hys', if_pos hgd]
          simp [names, strs]
        · unfold OwnS
          simp only [List.length_map, List.map_map]
          exact row_base hr3'
      case stop =>
        rintro D c pre W hD hpre ⟨⟨⟨rfl, hbad⟩, hr0, hr1⟩, hB⟩ hK
        gi_wp2
        have d0 := cell_kept hr0.cell (grownBy_putObj' _ D (.deferred none)) (fun r e => by cases e; exact ⟨_, hK, rfl⟩)
        have d1 := cell_kept hr1.cell (grownBy_putObj' _ D (.deferred none)) (fun r e => by cases e; exact ⟨_, hK, rfl⟩)
        refine ⟨by simp, .inl ⟨_, _, rfl, run_takeDeferred hK, ?_⟩⟩
        refine ⟨.tuple #[.slice none 0 0, .bool false], ?_, hB.trans (belowK_b (w := W0) (by omega) W D _ (.deferred none) hD hK rfl rfl), .inl ⟨?_, _, _, rfl⟩⟩
        · simp [results, Tryz.f111, go_sem, d0, d1]
        · rw [hsp, if_neg]
          intro hg
          rw [good_prefix hg hpre] at hbad
          simp at hbad
  · have hsp : splitOf s.data.toList = none := by
      cases hd : s.data.toList with
      | nil => rfl
      | cons c r => rw [splitOf_cons, if_neg]; rintro rfl; exact hno r hd
    gi_wp2
    refine ⟨.tuple #[.slice none 0 0, .bool false], ?_, ?_⟩
    · simp [results, Tryz.f111, go_sem]
    · exact ⟨((Below.refl _ w).alloc (Nat.le_refl _) _).alloc (by simp) _, .inl ⟨hsp, _, _, rfl⟩⟩
end

section
open Go.RowKit
theorem OwnS.len {w : World} {g n cap : Nat} {zs : List ByteArray} (h : OwnS w g n cap zs) : zs.length = n := by simpa using h.1
theorem OwnS.lt {w : World} {g n cap : Nat} {zs : List ByteArray} (h : OwnS w g n cap zs) : g < w.heap.size := (World.ownsRow.lt h g rfl).2
theorem OwnS.keep {w w' : World} {g n cap : Nat} {zs : List ByteArray} (h : OwnS w g n cap zs) (hb : Below w.heap.size w w') : OwnS w' g n cap zs := row_below hb h
theorem OwnS.kept {w w' : World} {g n c g2 : Nat} {zs : List ByteArray} (h : OwnS w g n c zs) (hg : w.grownBy w' (some g2)) (hne : g ≠ g2) : OwnS w' g n c zs :=
  World.ownsRow.kept h hg (.inr (by simp [Value.ownBlock, hne]))
theorem OwnS.alloc {w : World} {g n c : Nat} {zs : List ByteArray} (h : OwnS w g n c zs) (o : Obj) : OwnS (w.alloc o) g n c zs := World.ownsRow.alloc h o
/-- The texts zs can be read from the address a on. -/
def RdS (w : World) (a : Option Addr) (zs : List ByteArray) : Prop :=
  zs = [] ∨ ∃ b off, a = some ⟨b, off, none⟩ ∧ ∀ i, i < zs.length → w.cell? ⟨b, off + i, none⟩ = some (.string (zs.getD i ⟨#[]⟩))
theorem RdS.lt {w : World} {a : Option Addr} {zs : List ByteArray} (h : RdS w a zs) (hz : zs ≠ []) : ∃ b off, a = some ⟨b, off, none⟩ ∧ b < w.heap.size ∧ ∀ i, i < zs.length → w.cell? ⟨b, off + i, none⟩ = some (.string (zs.getD i ⟨#[]⟩)) := by
  rcases h with h | ⟨b, off, rfl, hc⟩
  · exact absurd h hz
  · exact ⟨b, off, rfl, World.block_lt_of_cell? w _ (hc 0 (List.length_pos_iff.2 hz)), hc⟩
theorem RdS.keep {w w' : World} {a : Option Addr} {zs : List ByteArray} (h : RdS w a zs) (hb : Below w.heap.size w w') : RdS w' a zs := by
  by_cases hz : zs = []
  · exact .inl hz
  · obtain ⟨b, off, rfl, hlt, hc⟩ := h.lt hz
    refine .inr ⟨b, off, rfl, fun i hi => ?_⟩
    rw [hb.cell (p := ⟨b, off + i, none⟩) hlt]
    exact hc i hi
theorem OwnS.rd {w : World} {g n cap : Nat} {zs : List ByteArray} (h : OwnS w g n cap zs) : RdS w (some ⟨g, 0, none⟩) zs := by
  refine .inr ⟨g, 0, rfl, fun i hi => ?_⟩
  have hn := h.len
  have := World.ownsRow.cellAt h i (by omega)
  rw [Nat.zero_add, this]
  simp [hi]
theorem RdS.take {w : World} {a : Option Addr} {zs : List ByteArray} (h : RdS w a zs) (k : Nat) : RdS w a (zs.take k) := by
  rcases h with h | ⟨b, off, rfl, hc⟩
  · exact .inl (by rw [h]; simp)
  · refine .inr ⟨b, off, rfl, fun i hi => ?_⟩
    simp only [List.length_take] at hi
    rw [hc i (by omega)]
    have : i < k := by omega
    simp [this]
theorem strs_length (zs : List ByteArray) : (strs zs).length = zs.length := by simp [strs]
end

section
open Go.RowKit
theorem str_ne {z y : ByteArray} (h : z ≠ y) : (z.toList == y.toList) = false := by
  rw [beq_eq_false_iff_ne]
  intro e
  rw [Lib.toList_data, Lib.toList_data] at e
  apply h
  rw [← Lib.mk_data z, ← Lib.mk_data y, e]
theorem strs_inj : ∀ {zs ys : List ByteArray}, strs zs = strs ys → zs = ys
  | [], [], _ => rfl
  | [], _ :: _, h => by simp [strs] at h
  | _ :: _, [], h => by simp [strs] at h
  | z :: zs, y :: ys, h => by
    simp only [strs, List.map_cons, List.cons.injEq] at h
    have e : z = y := by rw [← Lib.mk_data z, ← Lib.mk_data y, h.1]
    rw [e, strs_inj h.2]
/-- What SplitPath answers, the answer known. -/
theorem SpPost.no {s : ByteArray} {w w' : World} {e : Ending} (h : SpPost s w e w') (hs : splitOf s.data.toList = none) : Below w.heap.size w w' ∧ ∃ a c, e = .returned (.tuple #[.slice a 0 c, .bool false]) := by
  rcases h.2 with ⟨_, h2⟩ | ⟨zs, g, c, h2, _⟩
  · exact ⟨h.1, h2⟩
  · rw [hs] at h2; cases h2
theorem SpPost.yes {s : ByteArray} {w w' : World} {e : Ending} {zs : List ByteArray} (h : SpPost s w e w') (hs : splitOf s.data.toList = some (strs zs)) : Below w.heap.size w w' ∧ ∃ g c, e = .returned (.tuple #[.slice (some ⟨g, 0, none⟩) zs.length c, .bool true]) ∧ w.heap.size ≤ g ∧ OwnS w' g zs.length c zs := by
  rcases h.2 with ⟨h2, _⟩ | ⟨ys, g, c, h2, h3⟩
  · rw [hs] at h2; cases h2
  · rw [hs, Option.some.injEq] at h2
    obtain rfl := strs_inj h2
    exact ⟨h.1, g, c, h3⟩
theorem split_strs {l : Str} {ps : List Str} (h : splitOf l = some ps) : ∃ zs, splitOf l = some (strs zs) ∧ zs.length ≤ 30 := by
  refine ⟨ps.map (fun p => ⟨p.toArray⟩), ?_, ?_⟩
  · rw [h]
    simp [strs, Function.comp_def]
  · simpa using good_len (split_good h)
end
end Go.Proofs.YtbjfihabkpianaaGreatDoor
