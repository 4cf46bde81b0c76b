/-
  What the library's functions answer that the paths are split by: strings.Cut at a slash, strings.CutPrefix at a slash, strings.Clone; at every text.
-/
import Derived.Test.YtgdloohafkanhaaName
import Derived.Lib.Slices
import Derived.Lib.Walk
import Derived.Lib.Bytealg
import Derived.Lib.IndexLaws
import Derived.Lib.BufferWrite
import Derived.Lib.UnsafeStr
import Derived.Laws.MakeOwn
import Derived.Laws.Strings3
namespace Go.Proofs.Ytgdloohafkanhaa
open Go.RowKit

/-- The text of one slash. -/
abbrev slashB : ByteArray := ⟨#[47]⟩

set_option maxHeartbeats 1000000 in
set_option maxRecDepth 100000 in
theorem indexByte_slash (s : ByteArray) (w : World) :
    Calls Try.prog 54 #[.string s, .int .u8 47] w fun e w' => e = .returned (.int .i64 (Lib.indexByte s.data.toList 47)) ∧ w' = w := by
  go_enter Try.func54, Try.ntmps54
  go_wp2
  rw [run_callFunc_extern Try.func58 (by kernel_rfl) (by kernel_rfl) (by kernel_rfl) (e := Extern.BytealgIndexByte.indexByte) (by kernel_rfl), Lib.run_indexByteString]
  simp only [Result.andThen]
  rw [Oper.upon_value]
  go_wp2
  go_ret
  exact ⟨rfl, rfl⟩

set_option maxHeartbeats 2000000 in
set_option maxRecDepth 100000 in
theorem index_slash (s : ByteArray) (w : World) :
    Calls Try.prog 53 #[.string s, .string slashB] w fun e w' => e = .returned (.int .i64 (Lib.indexByte s.data.toList 47)) ∧ w' = w := by
  by_cases h : s.toList = [47]
  · have hb : ([47] == s.toList) = true := by rw [h]; rfl
    have he : Hid (Lib.indexByte s.data.toList 47 = 0) := by
      rw [← Lib.toList_data, h]; exact rfl
    go_enter Try.func53, Try.ntmps53
    go_wp2
    go_ret
    exact ⟨by rw [he.out]; rfl, rfl⟩
  · have hb : ([47] == s.toList) = false := by rw [beq_eq_false_iff_ne]; exact fun e => h e.symm
    go_enter Try.func53, Try.ntmps53
    go_wp2_with fail
    refine (indexByte_slash s w).mono ?_
    rintro e w1 ⟨rfl, rfl⟩
    go_wp2
    go_ret
    exact ⟨rfl, rfl⟩

/-- Where the first slash of a text is. -/
theorem index_cases (l : Str) : (Lib.indexByte l 47 = -1 ∧ 47 ∉ l) ∨ ∃ i : Nat, Lib.indexByte l 47 = i ∧ i < l.length ∧ l = l.take i ++ 47 :: l.drop (i + 1) ∧ 47 ∉ l.take i := by
  have hge := Lib.indexByte_ge l 47
  by_cases h : Lib.indexByte l 47 = -1
  · left
    refine ⟨h, fun hm => ?_⟩
    obtain ⟨k, hk⟩ := List.getElem?_of_mem hm
    exact Lib.indexByte_none h k hk
  · right
    obtain ⟨i, hi⟩ : ∃ i : Nat, Lib.indexByte l 47 = i := ⟨(Lib.indexByte l 47).toNat, by omega⟩
    obtain ⟨h1, h2⟩ := Lib.indexByte_some hi
    have hlt : i < l.length := by
      rcases Nat.lt_or_ge i l.length with h | h
      · exact h
      · rw [List.getElem?_eq_none h] at h1; simp at h1
    refine ⟨i, hi, hlt, ?_, fun hm => ?_⟩
    · have e := List.take_append_drop i l
      rw [List.drop_eq_getElem_cons hlt] at e
      rw [List.getElem?_eq_getElem hlt] at h1
      simp only [Option.some.injEq] at h1
      rw [h1] at e
      exact e.symm
    · obtain ⟨k, hk⟩ := List.getElem?_of_mem hm
      rw [List.getElem?_take] at hk
      split at hk
      · rename_i hki
        exact h2 k hki hk
      · simp at hk

/-- What Cut answers at a slash. -/
def CutPost (s : ByteArray) (w : World) (e : Ending) (w' : World) : Prop :=
  (e = .returned (.tuple #[.string s, .string ⟨#[]⟩, .bool false]) ∧ 47 ∉ s.data.toList ∧ ∃ n, w' = w.drewN n) ∨
  (∃ b a : ByteArray, e = .returned (.tuple #[.string b, .string a, .bool true]) ∧ s.data.toList = b.data.toList ++ 47 :: a.data.toList ∧ 47 ∉ b.data.toList ∧ ∃ n, w' = w.drewN n)

set_option maxHeartbeats 2000000 in
set_option maxRecDepth 100000 in
theorem cut_inner (s : ByteArray) (w : World) (hs : s.size ≤ 4000000) :
    Calls Try.prog 52 #[.string s, .string slashB] w (CutPost s w) := by
  rcases index_cases s.data.toList with ⟨hi, hno⟩ | ⟨i, hi, hlt, hcut, hno⟩
  · have hi' : Hid (Lib.indexByte s.data.toList 47 = -1) := hi
    clear hi
    go_enter Try.func52, Try.ntmps52
    go_wp2_with fail
    refine (index_slash s w).mono ?_
    rintro e w1 ⟨rfl, rfl⟩
    rw [hi'.out]
    go_wp2
    go_ret3
    exact .inl ⟨rfl, hno, 0, rfl⟩
  · have hi' : Hid (Lib.indexByte s.data.toList 47 = i) := hi
    have hcut' : Hid (s.data.toList = s.data.toList.take i ++ 47 :: s.data.toList.drop (i + 1)) := hcut
    have hsz := Lib.size_eq s
    clear hi hcut
    have c1 : (0 : Int) ≤ ↑i := by omega
    have c2 : (↑i : Int) ≤ ↑s.size := by omega
    have c3 : (0 : Int) ≤ ↑i + 1 := by omega
    have c4 : (↑i + 1 : Int) ≤ ↑s.size := by omega
    have fin : ∀ n w, CutPost s w (.returned (.tuple #[.string (s.extract 0 i), .string (s.extract (i + 1) s.size), .bool true])) (w.drewN n) := by
      intro n w
      refine .inr ⟨_, _, rfl, ?_, ?_, n, rfl⟩
      · rw [Lib.extract_data, Lib.extract_data]
        simp only [List.drop_zero, Nat.sub_zero]
        rw [List.take_of_length_le (l := s.data.toList.drop (i + 1)) (by simp)]
        exact hcut'.out
      · rw [Lib.extract_data]
        simpa using hno
    have Fin : Hid (∀ n w, CutPost s w (.returned (.tuple #[.string (s.extract 0 i), .string (s.extract (i + 1) s.size), .bool true])) (w.drewN n)) := fin
    clear fin hlt hsz
    go_enter Try.func52, Try.ntmps52
    go_wp2_with fail
    refine (index_slash s w).mono ?_
    rintro e w1 ⟨rfl, rfl⟩
    rw [hi'.out]
    go_wp2
    go_quiet (fail)
    go_wp2
    go_ret3
    exact Fin.out _ _

set_option maxHeartbeats 2000000 in
theorem cut_any (s : ByteArray) (w : World) (hs : s.size ≤ 4000000) :
    Calls Try.prog 48 #[.string s, .string slashB] w (CutPost s w) := by
  go_enter Try.func48, Try.ntmps48
  go_wp2_with fail
  refine (cut_inner s w hs).mono ?_
  rintro e w1 (⟨rfl, h, n, rfl⟩ | ⟨b, a, rfl, h1, h2, n, rfl⟩)
  · go_wp2
    go_ret3
    exact .inl ⟨rfl, h, n, rfl⟩
  · go_wp2
    go_ret3
    exact .inr ⟨b, a, rfl, h1, h2, n, rfl⟩

theorem Try.info5 : (Try.prog.info? 5).map (fun i => (i.zero, i.size, i.bytes)) = some (some (.int .u8 0), 1, 1) := by kernel_rfl

set_option maxHeartbeats 4000000 in
set_option maxRecDepth 100000 in
theorem clone_inner (s : ByteArray) (w : World) (hs : s.size ≤ 4000000) :
    Calls Try.prog 49 #[.string s] w fun e w' => e = .returned (.string s) ∧ Below w.heap.size w w' := by
  by_cases h0 : s.size = 0
  · obtain rfl : s = ⟨#[]⟩ := by
      apply ByteArray.ext
      exact Array.eq_empty_of_size_eq_zero h0
    go_enter Try.func49, Try.ntmps49
    go_wp2
    go_ret
    exact ⟨rfl, Below.refl _ _⟩
  · obtain ⟨i0, hi, hz0, hz1, hz2⟩ := info_parts Try.info5
    have hinfo : (Try.prog.info? 5).map (·.size) = some 1 := by rw [hi]; simp [hz1]
    have hco : Try.prog.cellsOf 5 = 1 := by simp [Program.cellsOf, hi, hz1]
    obtain ⟨M, hM⟩ : ∃ M, M = madeCells (Value.int .u8 0).cells (((s.size : Nat) : Int).toNat * i0.size) := ⟨_, rfl⟩
    have hMs : M.size = s.size := by rw [hM, size_madeCells, hz1]; simp
    have hmk : ∀ W : World, (Instr.makeSlice 22 (.int .i64 (s.size : Int)) (.int .i64 (s.size : Int))).run Try.prog W = .ok (.slice (some ⟨W.heap.size, 0, none⟩) s.size s.size) (W.alloc (.cells M 5)) := fun W => by
      have h := run_make (P := Try.prog) W 22 5 i0 (.int .u8 0) Try.underlying22 hi hz0 .i64 .i64 (s.size : Int) (s.size : Int) (by omega) (by omega) (by rw [hz2]; omega) (by omega)
      rw [← hM] at h
      simpa using h
    clear hM
    have hcp := Lib.run_copy_row_string (P := Try.prog) (w.alloc (.cells M 5)) 22 9 3 5 w.heap.size 0 s.size s.size s M 5 Try.underlying22 hinfo (heap_alloc_new w _) (Nat.le_refl _) (by omega)
    obtain ⟨Y, hY⟩ : ∃ Y, Y = (M.toList.take 0 ++ Lib.byteCells s.data.toList ++ M.toList.drop (0 + s.size)).toArray := ⟨_, rfl⟩
    rw [← hY] at hcp
    have hYl : Y.toList = Lib.byteCells s.data.toList := by
      rw [hY, List.toList_toArray, List.take_zero, List.nil_append, List.drop_of_length_le (by rw [Array.length_toList]; omega), List.append_nil]
    have hYs : Y.size = s.size := by rw [← Array.length_toList, hYl, Lib.byteCells_length, ← Lib.size_eq]
    have hgY : ((w.alloc (.cells M 5)).setRow w.heap.size Y).heap[w.heap.size]? = some (.cells Y 5 (0, 0)) := setRow_heap _ _ M _ 5 (0, 0) (heap_alloc_new w _)
    have hne : s.data.toList ≠ [] := fun e => h0 (by rw [Lib.size_eq, e]; rfl)
    have hUS := Lib.run_unsafeString_row (P := Try.prog) ((w.alloc (.cells M 5)).setRow w.heap.size Y) 60 3 9 5 Try.underlying60 hco w.heap.size Y.size (by unfold World.shape?; rw [hgY]) s.data.toList hne (by rw [← Lib.size_eq]; omega) (by rw [← Lib.size_eq]; omega)
      (fun j x hx => Lib.cells_of_row hgY Y.size j _ (by rw [List.take_of_length_le (by rw [Array.length_toList]; exact Nat.le_refl _), hYl]; simp [Lib.byteCells, hx]))
    rw [← Lib.size_eq] at hUS
    clear hY
    have hb1 : Below w.heap.size w (w.alloc (.cells M 5)) := (Below.refl _ w).alloc (Nat.le_refl _) _
    have hb2 : Below w.heap.size (w.alloc (.cells M 5)) ((w.alloc (.cells M 5)).setRow w.heap.size Y) := ⟨rfl, rfl, rfl, by simp, fun k hk => setRow_other _ _ _ _ (by omega)⟩
    have hb : Hid (Below w.heap.size w ((w.alloc (.cells M 5)).setRow w.heap.size Y)) := hb1.trans hb2
    clear hb1 hb2
    go_enter Try.func49, Try.ntmps49
    go_wp2
    go_ret
    exact ⟨rfl, Lib.below_freeze hb.out (p := ⟨w.heap.size, 0, none⟩) (Nat.le_refl _) _⟩

set_option maxHeartbeats 1000000 in
theorem strClone (s : ByteArray) (w : World) (hs : s.size ≤ 4000000) :
    Calls Try.prog 39 #[.string s] w fun e w' => e = .returned (.string s) ∧ Below w.heap.size w w' := by
  go_enter Try.func39, Try.ntmps39
  go_wp2_with fail
  refine (clone_inner s w hs).mono ?_
  rintro e w1 ⟨rfl, hb⟩
  go_wp2
  go_ret
  exact ⟨rfl, hb⟩

/-- What CutPrefix answers at a slash. -/
def PrePost (s : ByteArray) (w : World) (e : Ending) (w' : World) : Prop := w' = w ∧
  ((∃ r, s.data.toList = 47 :: r ∧ e = .returned (.tuple #[.string ⟨r.toArray⟩, .bool true])) ∨ ((∀ r, s.data.toList ≠ 47 :: r) ∧ e = .returned (.tuple #[.string s, .bool false])))

set_option maxHeartbeats 2000000 in
theorem prefix_any (s : ByteArray) (w : World) :
    Calls Try.prog 37 #[.string s, .string slashB] w (PrePost s w) := by
  have hsz := Lib.size_eq s
  by_cases h1 : (1 : Int) ≤ (s.size : Int)
  · have ht : (s.extract 0 1).toList = s.data.toList.take 1 := by rw [Lib.extract_toList]; simp
    by_cases h2 : (s.extract 0 1).toList = [47]
    · have hb : ((s.extract 0 1).toList == [47]) = true := by rw [h2]; rfl
      have hfin : Hid (PrePost s w (.returned (.tuple #[.string (s.extract 1 s.size), .bool true])) w) := by
        refine ⟨rfl, .inl ⟨s.data.toList.drop 1, ?_, ?_⟩⟩
        · have e := List.take_append_drop 1 s.data.toList
          rw [← ht, h2] at e
          exact e.symm
        · rw [Lib.extract_eq, List.take_of_length_le (by rw [List.length_drop, ← hsz]; exact Nat.le_refl _)]
      clear ht hsz h2
      go_enter Try.func37, Try.ntmps37
      go_wp2
      go_ret2
      exact hfin.out
    · have hb : ((s.extract 0 1).toList == [47]) = false := by rw [beq_eq_false_iff_ne]; exact h2
      have hfin : Hid (PrePost s w (.returned (.tuple #[.string s, .bool false])) w) := by
        refine ⟨rfl, .inr ⟨fun r e => h2 ?_, rfl⟩⟩
        rw [ht, e]; rfl
      clear ht hsz h2
      go_enter Try.func37, Try.ntmps37
      go_wp2
      go_ret2
      exact hfin.out
  · have hfin : Hid (PrePost s w (.returned (.tuple #[.string s, .bool false])) w) := by
      refine ⟨rfl, .inr ⟨fun r e => ?_, rfl⟩⟩
      rw [hsz, e] at h1
      simp at h1
      omega
    clear hsz
    go_enter Try.func37, Try.ntmps37
    go_wp2
    go_ret2
    exact hfin.out
end Go.Proofs.Ytgdloohafkanhaa
