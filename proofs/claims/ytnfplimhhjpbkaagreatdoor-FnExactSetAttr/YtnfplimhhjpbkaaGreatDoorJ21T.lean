/-
  Joined: SetW, Cut, Iter.
-/
import Derived.Test.YtnfplimhhjpbkaaGreatDoorSetIT
import Derived.RangeFuncBox
import Derived.RangeFuncNested
import Derived.RangeFuncBound
import Derived.RangeFuncCalls
import Derived.RangeFuncLeaves
import Derived.Shelf.Abstract
import Derived.Shelf.RegionOpen
import Derived.OwnWalkIn
import Derived.TacticsInMore
import Derived.LoopNIn
import Derived.LoopIn
namespace Go.Proofs.YtnfplimhhjpbkaaGreatDoor
section
open Go.RowKit
theorem q_bound4 {rs : List InoR} {js : List InoJ} {n : Nat} (h : (js.map InoJ.r).map InoR.D = rs.map InoR.D) (hn : rs.length = n) (hc : n + cntI rs ≤ 1100000) : qAt 1 js n ≤ 4000000 := by
  have hl : js.length = n := by have := congrArg List.length h; simp at this; omega
  unfold qAt
  rw [List.take_of_length_le (by omega), show js.map InoJ.cost = ((js.map InoJ.r).map InoR.D).map costD by simp [InoJ.cost, costD, Function.comp_def], h]
  have := cost_sum rs
  omega
/-- A table that was answered: its box, its parts; all of it below T. -/
structure QS (W : World) (TS BS T U : Nat) (a : Option Addr) (m c : Nat) (nx : Int) (ds : List InoR) (js : List InoJ) : Prop where
  box : Blk W TS 26 #[.slice a m c, .int .i64 nx]
  q : DQA BS W (.slice a m c) ds js
  len : js.length = m
  ap : ApV T (.slice a m c) js
  tT : TS < U ∧ T ≤ U ∧ U ≤ W.heap.size
theorem QS.keep {W W' : World} {TS BS T U : Nat} {a : Option Addr} {m c : Nat} {nx : Int} {ds : List InoR} {js : List InoJ} (h : QS W TS BS T U a m c nx ds js) (hb : Below W.heap.size W W') : QS W' TS BS T U a m c nx ds js :=
  ⟨h.box.keep hb, h.q.keep hb, h.len, h.ap, h.tT.1, h.tT.2.1, Nat.le_trans h.tT.2.2 hb.size⟩
theorem QS.outs {W W' : World} {TS BS T U Lo Hi : Nat} {a : Option Addr} {m c : Nat} {nx : Int} {ds : List InoR} {js : List InoJ} (h : QS W TS BS T U a m c nx ds js) (k : Out Lo Hi W W') (hd : U ≤ Lo) : QS W' TS BS T U a m c nx ds js :=
  ⟨h.box.outs k (by have := h.tT; omega), h.q.outsLow h.ap k (Nat.le_trans h.tT.2.1 hd), h.len, h.ap, h.tT.1, h.tT.2.1, Nat.le_trans h.tT.2.2 k.size⟩
theorem QS.outsHi {W W' : World} {TS BS T U Lo Hi : Nat} {a : Option Addr} {m c : Nat} {nx : Int} {ds : List InoR} {js : List InoJ} (h : QS W TS BS T U a m c nx ds js) (k : Out Lo Hi W W') (h1 : Hi ≤ BS) (h2 : Hi ≤ TS) : QS W' TS BS T U a m c nx ds js :=
  ⟨h.box.outs k (by omega), h.q.outs k h1, h.len, h.ap, h.tT.1, h.tT.2.1, Nat.le_trans h.tT.2.2 k.size⟩
theorem QS.two {W : World} {TS BS T U : Nat} {a : Option Addr} {m c : Nat} {nx : Int} {ds : List InoR} {js : List InoJ} (h : QS W TS BS T U a m c nx ds js) : W.cell? ⟨TS, 0, none⟩ = some (.slice a m c) ∧ W.cell? ⟨TS, 1, none⟩ = some (.int .i64 nx) := ⟨Blk.cell h.box 0, Blk.cell h.box 1⟩
/-- The first argument's copy: its box, its parts. -/
structure QT (W : World) (XB B g n Lo Hi : Nat) (nx : Int) (rs : List InoR) (js : List InoJ) : Prop where
  box : Blk W XB 26 #[.slice (some ⟨g, 0, none⟩) n n, .int .i64 nx]
  tq : TabQ W B g n rs (js.map InoJ.r)
  jq : JsQ W (g + 1) js
  ap : ApJ g Lo Hi js
  hH : Hi ≤ XB
theorem QT.keep {W W' : World} {XB B g n Lo Hi : Nat} {nx : Int} {rs : List InoR} {js : List InoJ} (h : QT W XB B g n Lo Hi nx rs js) (hb : Below W.heap.size W W') : QT W' XB B g n Lo Hi nx rs js := ⟨h.box.keep hb, h.tq.keep hb, h.jq.keep hb, h.ap, h.hH⟩
theorem QT.two {W : World} {XB B g n Lo Hi : Nat} {nx : Int} {rs : List InoR} {js : List InoJ} (h : QT W XB B g n Lo Hi nx rs js) : W.cell? ⟨XB, 0, none⟩ = some (.slice (some ⟨g, 0, none⟩) n n) ∧ W.cell? ⟨XB, 1, none⟩ = some (.int .i64 nx) := ⟨Blk.cell h.box 0, Blk.cell h.box 1⟩
end

section
open Go.RowKit
/-- The text of one slash. -/
abbrev slashB : ByteArray := ⟨#[47]⟩
set_option maxHeartbeats 1000000 in
set_option maxRecDepth 100000 in
theorem indexByte_slash (s : ByteArray) (w : World) :
    Calls Tryz.prog 289 #[.string s, .int .u8 47] w fun e w' => e = .returned (.int .i64 (Lib.indexByte s.data.toList 47)) ∧ w' = w := by
  go_enter Tryz.func289, Tryz.ntmps289
  go_wp2
  rw [run_callFunc_extern Tryz.func294 (by kernel_rfl) (by kernel_rfl) (by kernel_rfl) (e := Extern.BytealgIndexByte.indexByte) (by kernel_rfl), Lib.run_indexByteString]
  simp only [Result.andThen]
  rw [Oper.upon_value]
  go_wp2
  go_ret
  exact ⟨rfl, rfl⟩
set_option maxHeartbeats 2000000 in
set_option maxRecDepth 100000 in
theorem index_slash (s : ByteArray) (w : World) :
    Calls Tryz.prog 285 #[.string s, .string slashB] w fun e w' => e = .returned (.int .i64 (Lib.indexByte s.data.toList 47)) ∧ w' = w := by
  by_cases h : s.toList = [47]
  · have hb : ([47] == s.toList) = true := by rw [h]; rfl
    have he : Hid (Lib.indexByte s.data.toList 47 = 0) := by
      rw [← Lib.toList_data, h]; exact rfl
    go_enter Tryz.func285, Tryz.ntmps285
    go_wp2
    go_ret
    exact ⟨by rw [he.out]; rfl, rfl⟩
  · have hb : ([47] == s.toList) = false := by rw [beq_eq_false_iff_ne]; exact fun e => h e.symm
    go_enter Tryz.func285, Tryz.ntmps285
    go_wp2_with fail
    refine (indexByte_slash s w).mono ?_
    rintro e w1 ⟨rfl, rfl⟩
    go_wp2
    go_ret
    exact ⟨rfl, rfl⟩
/-- Where the first slash of a text is. -/
theorem index_cases (l : Str) : (Lib.indexByte l 47 = -1 ∧ 47 ∉ l) ∨ ∃ i : Nat, Lib.indexByte l 47 = i ∧ i < l.length ∧ l = l.take i ++ 47 :: l.drop (i + 1) ∧ 47 ∉ l.take i := by
  have hge := Lib.indexByte_ge l 47
  by_cases h : Lib.indexByte l 47 = -1
  · left
    refine ⟨h, fun hm => ?_⟩
    obtain ⟨k, hk⟩ := List.getElem?_of_mem hm
    exact Lib.indexByte_none h k hk
  · right
    obtain ⟨i, hi⟩ : ∃ i : Nat, Lib.indexByte l 47 = i := ⟨(Lib.indexByte l 47).toNat, by omega⟩
    obtain ⟨h1, h2⟩ := Lib.indexByte_some hi
    have hlt : i < l.length := by
      rcases Nat.lt_or_ge i l.length with h | h
      · exact h
      · rw [List.getElem?_eq_none h] at h1; simp at h1
    refine ⟨i, hi, hlt, ?_, fun hm => ?_⟩
    · have e := List.take_append_drop i l
      rw [List.drop_eq_getElem_cons hlt] at e
      rw [List.getElem?_eq_getElem hlt] at h1
      simp only [Option.some.injEq] at h1
      rw [h1] at e
      exact e.symm
    · obtain ⟨k, hk⟩ := List.getElem?_of_mem hm
      rw [List.getElem?_take] at hk
      split at hk
      · rename_i hki
        exact h2 k hki hk
      · simp at hk
/-- What Cut answers at a slash. -/
def CutPost (s : ByteArray) (w : World) (e : Ending) (w' : World) : Prop :=
  (e = .returned (.tuple #[.string s, .string ⟨#[]⟩, .bool false]) ∧ 47 ∉ s.data.toList ∧ ∃ n, w' = w.drewN n) ∨
  (∃ b a : ByteArray, e = .returned (.tuple #[.string b, .string a, .bool true]) ∧ s.data.toList = b.data.toList ++ 47 :: a.data.toList ∧ 47 ∉ b.data.toList ∧ ∃ n, w' = w.drewN n)
set_option maxHeartbeats 2000000 in
set_option maxRecDepth 100000 in
theorem cut_inner (s : ByteArray) (w : World) (hs : s.size ≤ 4000000) :
    Calls Tryz.prog 279 #[.string s, .string slashB] w (CutPost s w) := by
  rcases index_cases s.data.toList with ⟨hi, hno⟩ | ⟨i, hi, hlt, hcut, hno⟩
  · have hi' : Hid (Lib.indexByte s.data.toList 47 = -1) := hi
    clear hi
    go_enter Tryz.func279, Tryz.ntmps279
    go_wp2_with fail
    refine (index_slash s w).mono ?_
    rintro e w1 ⟨rfl, rfl⟩
    rw [hi'.out]
    go_wp2
    go_ret3
    exact .inl ⟨rfl, hno, 0, rfl⟩
  · have hi' : Hid (Lib.indexByte s.data.toList 47 = i) := hi
    have hcut' : Hid (s.data.toList = s.data.toList.take i ++ 47 :: s.data.toList.drop (i + 1)) := hcut
    have hsz := Lib.size_eq s
    clear hi hcut
    have c1 : (0 : Int) ≤ ↑i := by omega
    have c2 : (↑i : Int) ≤ ↑s.size := by omega
    have c3 : (0 : Int) ≤ ↑i + 1 := by omega
    have c4 : (↑i + 1 : Int) ≤ ↑s.size := by omega
    have fin : ∀ n w, CutPost s w (.returned (.tuple #[.string (s.extract 0 i), .string (s.extract (i + 1) s.size), .bool true])) (w.drewN n) := by
      intro n w
      refine .inr ⟨_, _, rfl, ?_, ?_, n, rfl⟩
      · rw [Lib.extract_data, Lib.extract_data]
        simp only [List.drop_zero, Nat.sub_zero]
        rw [List.take_of_length_le (l := s.data.toList.drop (i + 1)) (by simp)]
        exact hcut'.out
      · rw [Lib.extract_data]
        simpa using hno
    have Fin : Hid (∀ n w, CutPost s w (.returned (.tuple #[.string (s.extract 0 i), .string (s.extract (i + 1) s.size), .bool true])) (w.drewN n)) := fin
    clear fin hlt hsz
    go_enter Tryz.func279, Tryz.ntmps279
    go_wp2_with fail
    refine (index_slash s w).mono ?_
    rintro e w1 ⟨rfl, rfl⟩
    rw [hi'.out]
    go_wp2
    go_quiet (fail)
    go_wp2
    go_ret3
    exact Fin.out _ _
set_option maxHeartbeats 2000000 in
theorem cut_any (s : ByteArray) (w : World) (hs : s.size ≤ 4000000) :
    Calls Tryz.prog 266 #[.string s, .string slashB] w (CutPost s w) := by
  go_enter Tryz.func266, Tryz.ntmps266
  go_wp2_with fail
  refine (cut_inner s w hs).mono ?_
  rintro e w1 (⟨rfl, h, n, rfl⟩ | ⟨b, a, rfl, h1, h2, n, rfl⟩)
  · go_wp2
    go_ret3
    exact .inl ⟨rfl, h, n, rfl⟩
  · go_wp2
    go_ret3
    exact .inr ⟨b, a, rfl, h1, h2, n, rfl⟩
/-- What CutPrefix answers at a slash. -/
def PrePost (s : ByteArray) (w : World) (e : Ending) (w' : World) : Prop := w' = w ∧
  ((∃ r, s.data.toList = 47 :: r ∧ e = .returned (.tuple #[.string ⟨r.toArray⟩, .bool true])) ∨ ((∀ r, s.data.toList ≠ 47 :: r) ∧ e = .returned (.tuple #[.string s, .bool false])))
set_option maxHeartbeats 2000000 in
theorem prefix_any (s : ByteArray) (w : World) :
    Calls Tryz.prog 242 #[.string s, .string slashB] w (PrePost s w) := by
  have hsz := Lib.size_eq s
  by_cases h1 : (1 : Int) ≤ (s.size : Int)
  · have ht : (s.extract 0 1).toList = s.data.toList.take 1 := by rw [Lib.extract_toList]; simp
    by_cases h2 : (s.extract 0 1).toList = [47]
    · have hb : ((s.extract 0 1).toList == [47]) = true := by rw [h2]; rfl
      have hfin : Hid (PrePost s w (.returned (.tuple #[.string (s.extract 1 s.size), .bool true])) w) := by
        refine ⟨rfl, .inl ⟨s.data.toList.drop 1, ?_, ?_⟩⟩
        · have e := List.take_append_drop 1 s.data.toList
          rw [← ht, h2] at e
          exact e.symm
        · rw [Lib.extract_eq, List.take_of_length_le (by rw [List.length_drop, ← hsz]; exact Nat.le_refl _)]
      clear ht hsz h2
      go_enter Tryz.func242, Tryz.ntmps242
      go_wp2
      go_ret2
      exact hfin.out
    · have hb : ((s.extract 0 1).toList == [47]) = false := by rw [beq_eq_false_iff_ne]; exact h2
      have hfin : Hid (PrePost s w (.returned (.tuple #[.string s, .bool false])) w) := by
        refine ⟨rfl, .inr ⟨fun r e => h2 ?_, rfl⟩⟩
        rw [ht, e]; rfl
      clear ht hsz h2
      go_enter Tryz.func242, Tryz.ntmps242
      go_wp2
      go_ret2
      exact hfin.out
  · have hfin : Hid (PrePost s w (.returned (.tuple #[.string s, .bool false])) w) := by
      refine ⟨rfl, .inr ⟨fun r e => ?_, rfl⟩⟩
      rw [hsz, e] at h1
      simp at h1
      omega
    clear hsz
    go_enter Tryz.func242, Tryz.ntmps242
    go_wp2
    go_ret2
    exact hfin.out
end

section
open Go.RowKit Go.Shelf
attribute [local go_sem] Oper.semAt_some
/-- A text that comes out of another of at most so many bytes. -/
abbrev Piece := { b : ByteArray // b.size ≤ 4000000 }
def names (xs : List Piece) : List Str := xs.map fun x => x.1.data.toList
theorem names_snoc (xs : List Piece) (x : Piece) : names (xs ++ [x]) = names xs ++ [x.1.data.toList] := by simp [names]
theorem names_length (xs : List Piece) : (names xs).length = xs.length := by simp [names]
/-- What is still to come. -/
def restOf : Bool → Str → List Str
  | true, r => pieces r
  | false, _ => []
/-- How much is still to come. -/
def leftOf (r m : Value) : Nat := match r, m with
  | .string s, .bool true => s.size + 1
  | _, _ => 0
set_option maxRecDepth 100000 in
set_option maxHeartbeats 1000000 in
theorem names1 (n l Bn n₀ : Nat) (hn : 1 ≤ n) (s : ByteArray) (hs : s.size ≤ 4000000) (J Jx : List Piece → World → Prop) (hJd : ∀ pre W n, J pre W → J pre (W.drewN n))
    (hY : ∀ pre x W, J pre W → pre.length < (pieces s.data.toList).length → YieldAt Fence.wide (n - 1) Tryz.prog l #[.string x.1] W fun e W' =>
      (e = .returned (.bool true) ∧ J (pre ++ [x]) W' ∧ Below n₀ W W') ∨ (e = .returned (.bool false) ∧ Jx (pre ++ [x]) W'))
    (W : World) (hc : W.cell? ⟨Bn, 0, none⟩ = some (.string s)) (h0 : J [] W) :
    CallsIn Fence.wide n Tryz.prog 265 #[.func (.yield l) #[] #[], .pointer (some ⟨Bn, 0, none⟩)] W fun e W' => (∃ v, e = .returned v) ∧
      ((∃ ys, names ys = pieces s.data.toList ∧ J ys W') ∨ (∃ pre, names pre <+: pieces s.data.toList ∧ Jx pre W')) := by
  refine callsIn_of_wp Tryz.func265 rfl trivial ?_ rfl
  simp only [Tryz.ntmps265, List.size_toArray, List.length_cons, List.length_nil, Nat.reduceAdd, Nat.reduceSub, Array.replicate_succ, Array.replicate_zero, List.push_toArray, List.append_toArray, List.nil_append, List.cons_append]
  gi_wp2
  gi_loopw [3, 4] (fun p q wr => ∃ (pre : List Piece) (r : ByteArray) (m : Bool), p = .string r ∧ q = .bool m ∧ r.size ≤ s.size ∧ J pre wr ∧ Hid (pieces s.data.toList = names pre ++ restOf m r.data.toList))
    (fun p q _ => leftOf p q)
  case atStart => exact ⟨[], s, true, rfl, rfl, Nat.le_refl _, h0, rfl⟩
  case round =>
    obtain ⟨pre, r, m, rfl, rfl, hr, hJ, hp⟩ := hrel
    cases m with
    | false =>
      gi_wp2
      go_end0
      exact ⟨⟨_, rfl⟩, .inl ⟨pre, by rw [hp.out]; simp [restOf], hJ⟩⟩
    | true =>
      have hpl : pre.length < (pieces s.data.toList).length := by
        have h1 := congrArg List.length hp.out
        have h2 : 0 < (pieces r.data.toList).length := List.length_pos_iff.2 (pieces_ne _)
        simp only [restOf, List.length_append, names_length] at h1
        omega
      gi_wp2_with fail
      refine ⟨trivial, (callsIn_wide.2 (cut_any r wr (by omega))).mono ?_⟩
      rintro e w1 (⟨rfl, h47, d, rfl⟩ | ⟨b, a, rfl, hra, h47, d, rfl⟩)
      · -- no slash more: the last name
        have hpx : Hid (pieces s.data.toList = names (pre ++ [⟨r, by omega⟩])) := by
          show _ = _
          rw [hp.out, names_snoc]
          simp only [restOf]
          rw [pieces_miss _ h47]
        obtain ⟨fn, tmps, assign, body, hy, hR⟩ := hY pre ⟨r, by omega⟩ _ (hJd _ _ d hJ) hpl
        gi_wp2
        refine hR.mono ?_
        rintro e W3 (⟨rfl, hJ3, hk3⟩ | ⟨rfl, hJx3⟩)
        · gi_wp2
          go_roundw
          case rel => exact ⟨_, _, false, rfl, rfl, Nat.zero_le _, hJ3, show _ = _ by rw [hpx.out]; simp [restOf]⟩
          case measure => simp [leftOf]
        · gi_wp2
          refine bodyPost_ret (results_none rfl _ _ _) rfl ?_
          exact ⟨⟨_, rfl⟩, .inr ⟨_, by rw [hpx.out]; exact List.prefix_refl _, hJx3⟩⟩
      · -- a name, a slash and the rest
        have hlen : r.size = b.size + 1 + a.size := by
          have := congrArg List.length hra
          rw [List.length_append, List.length_cons, ← Lib.size_eq, ← Lib.size_eq, ← Lib.size_eq] at this
          omega
        have hpx : Hid (pieces s.data.toList = names (pre ++ [⟨b, by omega⟩]) ++ pieces a.data.toList) := by
          show _ = _
          rw [hp.out, names_snoc]
          simp only [restOf]
          rw [hra, pieces_hit _ _ h47, List.append_assoc]
          rfl
        obtain ⟨fn, tmps, assign, body, hy, hR⟩ := hY pre ⟨b, by omega⟩ _ (hJd _ _ d hJ) hpl
        gi_wp2
        refine hR.mono ?_
        rintro e W3 (⟨rfl, hJ3, hk3⟩ | ⟨rfl, hJx3⟩)
        · gi_wp2
          go_roundw
          case rel => exact ⟨_, _, true, rfl, rfl, by omega, hJ3, hpx⟩
          case measure => simp [leftOf]; omega
        · gi_wp2
          refine bodyPost_ret (results_none rfl _ _ _) rfl ?_
          exact ⟨⟨_, rfl⟩, .inr ⟨_, by rw [hpx.out]; exact List.prefix_append _ _, hJx3⟩⟩
set_option maxHeartbeats 1000000 in
theorem namesBetween_in (n : Nat) (s : ByteArray) (w : World) :
    CallsIn Fence.wide n Tryz.prog 243 #[.string s] w fun e w' => e = .returned (.func (.func 265) #[] #[.pointer (some ⟨w.heap.size, 0, none⟩)]) ∧ w' = w.alloc (.cells #[.string s] 9) := by
  refine callsIn_of_wp Tryz.func243 rfl trivial ?_ rfl
  simp only [Tryz.ntmps243, List.size_toArray, List.length_cons, List.length_nil, Nat.reduceAdd, Nat.reduceSub, Array.replicate_succ, Array.replicate_zero, List.push_toArray, List.append_toArray, List.nil_append, List.cons_append]
  gi_wp2
  go_ret
  exact ⟨rfl, rfl⟩
theorem names_stops (n Bn n₀ : Nat) (hn : 1 ≤ n) (s : ByteArray) (hs : s.size ≤ 4000000) (w : World) (hBn : Bn < w.heap.size) (hc : w.cell? ⟨Bn, 0, none⟩ = some (.string s)) :
    SeqStopsK Fence.wide n Tryz.prog 265 #[.pointer (some ⟨Bn, 0, none⟩)] (fun x : Piece => #[Value.string x.1]) (Below n₀) (fun ys => names ys = pieces s.data.toList) (fun pre => names pre <+: pieces s.data.toList) (pieces s.data.toList).length w := fun l J Jx W hW hJ _ hY h0 =>
  names1 n l Bn n₀ hn s hs J Jx (fun pre W' d h => hJ pre W' (W'.drewN d) none h ⟨rfl, rfl, rfl, Nat.le_refl _, fun _ _ _ => rfl⟩ (by intro r e; simp at e)) hY W ((hW.cell (p := ⟨Bn, 0, none⟩) hBn).trans hc) h0
end
end Go.Proofs.YtnfplimhhjpbkaaGreatDoor
