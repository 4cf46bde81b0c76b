/-
  Joined: Name, Pairs.
-/
import Derived.Test.YtmkcadnpleijdaaJ02U
import Derived.Lib.Strings
import Derived.Deep.RegionWith
import Derived.Laws.IdiomStrings
import Derived.Deep.Slices
namespace Go.Proofs.Ytmkcadnpleijdaa
section
open Go.RowKit
theorem ret_bool {a b : Bool} (h : a = b) : Ending.returned (.bool a) = .returned (.bool b) := by rw [h]
def signN (v : Nat) : Bool := (decide (97 ≤ v) && decide (v ≤ 122)) || (decide (48 ≤ v) && decide (v ≤ 57)) || decide (v = 95) || decide (v = 45) || decide (v = 46)
theorem signN_true {v : Nat} (h : 97 ≤ v ∧ v ≤ 122 ∨ 48 ≤ v ∧ v ≤ 57 ∨ v = 95 ∨ v = 45 ∨ v = 46) : signN v = true := by unfold signN; simp; omega
theorem signN_false {v : Nat} (h : ¬ (97 ≤ v ∧ v ≤ 122 ∨ 48 ≤ v ∧ v ≤ 57 ∨ v = 95 ∨ v = 45 ∨ v = 46)) : signN v = false := by unfold signN; simp; omega
set_option maxHeartbeats 400000 in
theorem isNameSign_nat (v : Nat) (w : World) : Calls Try.prog 71 #[.int .u8 (v : Int)] w fun e w' => e = .returned (.bool (signN v)) ∧ w' = w := by
  go_enter Try.func71, Try.ntmps71
  go_wp2
  all_goals go_ret
  all_goals (refine ⟨ret_bool ?_, rfl⟩; unfold signN; (try simp only [beq_iff_eq, beq_eq_false_iff_ne, ne_eq] at *); simp; omega)
theorem isNameSign_any (c : UInt8) (w : World) : Calls Try.prog 71 #[.int .u8 (c.toNat : Int)] w fun e w' => e = .returned (.bool (sign c)) ∧ w' = w := isNameSign_nat c.toNat w
set_option maxHeartbeats 400000 in
theorem l1In_any (x lo hi : Int) (w : World) : Calls Try.prog 44 #[.int .i64 x, .int .i64 lo, .int .i64 hi] w fun e w' => e = .returned (.bool (decide (lo ≤ x) && decide (x ≤ hi))) ∧ w' = w := by
  go_enter Try.func44, Try.ntmps44
  go_wp2
  all_goals go_ret
  all_goals (refine ⟨ret_bool ?_, rfl⟩; simp; try omega)
/-- The k-th byte of a text. -/
def byt (s : ByteArray) (k : Nat) : UInt8 := s.data.toList.getD k 0
theorem byt_get (s : ByteArray) (k : Nat) (h : k < s.size) : s[k] = byt s k := by
  unfold byt
  have hl : k < s.data.toList.length := by rw [← Lib.size_eq]; exact h
  simp only [List.getD_eq_getElem?_getD, List.getElem?_eq_getElem hl, Option.getD_some]
  rfl
theorem nameOk_iff (l : Str) : nameOk l = true ↔ 1 ≤ l.length ∧ l.length ≤ 14 ∧ l ≠ [46] ∧ l ≠ [46, 46] ∧ l.all sign = true := by
  unfold nameOk
  simp only [Bool.and_eq_true, decide_eq_true_eq, and_assoc]
theorem all_take (l : Str) (k : Nat) (h : k < l.length) (h1 : (l.take k).all sign = true) (h2 : sign (l.getD k 0) = true) : (l.take (k + 1)).all sign = true := by
  rw [List.take_succ_eq_append_getElem h, List.all_append, h1]
  have : l.getD k 0 = l[k] := by simp [h]
  rw [this] at h2
  simp [h2]
theorem all_not (l : Str) (k : Nat) (h : k < l.length) (h2 : sign (l.getD k 0) = false) : l.all sign = false := by
  rw [List.all_eq_false]
  refine ⟨l[k], List.getElem_mem h, ?_⟩
  have : l.getD k 0 = l[k] := by simp [h]
  rw [this] at h2
  simp [h2]
theorem nameOk_false {l : Str} (h : ¬ (1 ≤ l.length ∧ l.length ≤ 14 ∧ l ≠ [46] ∧ l ≠ [46, 46] ∧ l.all sign = true)) : nameOk l = false := by
  rw [Bool.eq_false_iff]; exact fun h' => h ((nameOk_iff l).1 h')
set_option maxHeartbeats 800000 in
theorem nameI (s : ByteArray) (w : World) (hs : s.size ≤ 4000000) : Calls Try.prog 63 #[.string s] w fun e w' => e = .returned (.bool (nameOk s.data.toList)) ∧ w' = w := by
  have hsz := Lib.size_eq s
  have htl := Lib.toList_data s
  by_cases h1 : (1 : Int) ≤ (s.size : Int)
  · by_cases h2 : (s.size : Int) ≤ 14
    · by_cases h3 : s.toList = [46]
      · have hf : Hid (nameOk s.data.toList = false) := nameOk_false (by rw [← htl, h3]; simp)
        clear htl hsz
        go_enter Try.func63, Try.ntmps63
        go_wp2
        go_ret
        exact ⟨ret_bool hf.out.symm, rfl⟩
      · by_cases h4 : s.toList = [46, 46]
        · have hf : Hid (nameOk s.data.toList = false) := nameOk_false (by rw [← htl, h4]; simp)
          clear htl hsz
          go_enter Try.func63, Try.ntmps63
          go_wp2
          go_ret
          exact ⟨ret_bool hf.out.symm, rfl⟩
        · have hsz' : Hid (s.size = s.data.toList.length) := hsz
          have htl' : Hid (s.toList = s.data.toList) := htl
          have hb3 : (s.toList == [46]) = false := by simpa using h3
          have hb4 : (s.toList == [46, 46]) = false := by simpa using h4
          clear htl hsz
          go_enter Try.func63, Try.ntmps63
          go_wp2
          go_loop [22] (fun i => ∃ k : Nat, k ≤ s.size ∧ i = .int .i64 k ∧ Hid ((s.data.toList.take k).all sign = true)) (fun i => s.size - (intOf i).toNat)
          case atStart => exact ⟨0, Nat.zero_le _, rfl, rfl⟩
          case round =>
            obtain ⟨k, hk, rfl, hall⟩ := hrel
            by_cases hkn : k < s.size
            · have hki : (k : Int) < (s.size : Int) := by omega
              have hb := byt_get s k hkn
              go_wp2_with fail
              refine (isNameSign_any _ w).mono ?_
              rintro e w1 ⟨rfl, rfl⟩
              cases hsg : sign (byt s k) with
              | true =>
                go_wp2
                go_round
                case rel => exact ⟨k + 1, by omega, by go_num, all_take _ k (by rw [← hsz'.out]; exact hkn) hall.out hsg⟩
                case measure => simp [intOf]; omega
              | false =>
                go_wp2
                go_ret
                refine ⟨ret_bool (nameOk_false ?_).symm, rfl⟩
                have := all_not s.data.toList k (by rw [← hsz'.out]; exact hkn) hsg
                rw [this]; simp
            · have hki : ¬ (k : Int) < (s.size : Int) := by omega
              go_wp2
              go_ret
              refine ⟨ret_bool ?_, rfl⟩
              have hl := hsz'.out
              have ha := hall.out
              rw [List.take_of_length_le (by omega)] at ha
              exact ((nameOk_iff _).2 ⟨by omega, by omega, by rw [← htl'.out]; exact h3, by rw [← htl'.out]; exact h4, ha⟩).symm
    · have hf : Hid (nameOk s.data.toList = false) := nameOk_false (by rw [← hsz]; omega)
      clear htl hsz
      go_enter Try.func63, Try.ntmps63
      go_wp2
      go_ret
      exact ⟨ret_bool hf.out.symm, rfl⟩
  · have hf : Hid (nameOk s.data.toList = false) := nameOk_false (by rw [← hsz]; omega)
    clear htl hsz
    go_enter Try.func63, Try.ntmps63
    go_wp2
    go_ret
    exact ⟨ret_bool hf.out.symm, rfl⟩
set_option maxHeartbeats 800000 in
theorem nameS (s : ByteArray) (w : World) (hs : s.size ≤ 4000000) : Calls Try.prog 43 #[.string s] w fun e w' => e = .returned (.bool (nameOk s.data.toList)) ∧ w' = w := by
  have hsz' : Hid (s.size = s.data.toList.length) := Lib.size_eq s
  have htl' : Hid (s.toList = s.data.toList) := Lib.toList_data s
  go_enter Try.func43, Try.ntmps43
  go_wp2
  go_loop [3] (fun i => ∃ k : Nat, k ≤ s.size ∧ i = .int .i64 k ∧ Hid ((s.data.toList.take k).all sign = true)) (fun i => s.size - (intOf i).toNat)
  case atStart => exact ⟨0, Nat.zero_le _, rfl, rfl⟩
  case round =>
    obtain ⟨k, hk, rfl, hall⟩ := hrel
    by_cases hkn : k < s.size
    · have hki : (k : Int) < (s.size : Int) := by omega
      have hb0 := byt_get s k hkn
      obtain ⟨v, hv⟩ : ∃ v, (byt s k).toNat = v := ⟨_, rfl⟩
      have hb : s[k].toNat = v := by rw [hb0]; exact hv
      have hv256 : v < 256 := by rw [← hv]; exact (byt s k).toNat_lt
      have hsg : sign (byt s k) = signN v := by rw [← hv]; rfl
      have hgo : Hid (signN v = true → (s.data.toList.take (k + 1)).all sign = true) := fun h => all_take _ k (by rw [← hsz'.out]; exact hkn) hall.out (hsg.trans h)
      have hno : Hid (signN v = false → nameOk s.data.toList = false) := fun h => nameOk_false (by rw [all_not s.data.toList k (by rw [← hsz'.out]; exact hkn) (hsg.trans h)]; simp)
      clear hb0 hsg hall hv
      go_wp2_with (go_at_call 44; refine (l1In_any _ _ _ _).mono ?_; rintro e w1 ⟨rfl, rfl⟩)
      all_goals (try simp only [bne_iff_ne, bne_eq_false_iff_eq, ne_eq, Bool.not_eq_true', Bool.not_eq_false', decide_eq_true_eq, decide_eq_false_iff_not] at *)
      all_goals first
        | (go_round
           case rel => exact ⟨k + 1, by omega, by go_num, hgo.out (signN_true (by omega))⟩
           case measure => simp [intOf]; omega)
        | (go_ret
           exact ⟨ret_bool (hno.out (signN_false (by omega))).symm, rfl⟩)
    · have hki : ¬ (k : Int) < (s.size : Int) := by omega
      have hall' : Hid (s.data.toList.all sign = true) := by
        have hl := hsz'.out
        have ha := hall.out
        rw [List.take_of_length_le (by omega)] at ha
        exact ha
      clear hall
      by_cases h1 : (1 : Int) ≤ (s.size : Int) ∧ (s.size : Int) ≤ 14
      · by_cases h3 : s.toList = [46]
        · have hb3 : (s.toList == [46]) = true := by simpa using h3
          have hf : Hid (nameOk s.data.toList = false) := nameOk_false (by rw [← htl'.out, h3]; simp)
          go_wp2_with (go_at_call 44; refine (l1In_any _ _ _ _).mono ?_; rintro e w1 ⟨rfl, rfl⟩)
          all_goals go_ret
          all_goals exact ⟨ret_bool hf.out.symm, rfl⟩
        · have hb3 : (s.toList == [46]) = false := by simpa using h3
          by_cases h4 : s.toList = [46, 46]
          · have hb4 : (s.toList == [46, 46]) = true := by simpa using h4
            have hf : Hid (nameOk s.data.toList = false) := nameOk_false (by rw [← htl'.out, h4]; simp)
            go_wp2_with (go_at_call 44; refine (l1In_any _ _ _ _).mono ?_; rintro e w1 ⟨rfl, rfl⟩)
            all_goals go_ret
            all_goals exact ⟨ret_bool hf.out.symm, rfl⟩
          · have hb4 : (s.toList == [46, 46]) = false := by simpa using h4
            have hf : Hid (nameOk s.data.toList = true) := (nameOk_iff _).2 ⟨by rw [← hsz'.out]; omega, by rw [← hsz'.out]; omega, by rw [← htl'.out]; exact h3, by rw [← htl'.out]; exact h4, hall'.out⟩
            go_wp2_with (go_at_call 44; refine (l1In_any _ _ _ _).mono ?_; rintro e w1 ⟨rfl, rfl⟩)
            all_goals go_ret
            all_goals exact ⟨ret_bool hf.out.symm, rfl⟩
      · have hf : Hid (nameOk s.data.toList = false) := nameOk_false (by rw [← hsz'.out]; omega)
        go_wp2_with (go_at_call 44; refine (l1In_any _ _ _ _).mono ?_; rintro e w1 ⟨rfl, rfl⟩)
        all_goals go_ret
        all_goals exact ⟨ret_bool hf.out.symm, rfl⟩
end

section
open Go.RowKit
theorem add_at (g j : Nat) : (⟨g, 0, none⟩ : Addr).add j = ⟨g, j, none⟩ := by
  unfold Addr.add
  split
  · rename_i h; rw [h]
  · simp
/-- Block B holds the cells vs, of type t. -/
def Blk (W : World) (B : Nat) (t : TypeId) (vs : Array Value) : Prop := W.heap[B]? = some (.cells vs t (0, 0))
theorem Blk.lt {W : World} {B : Nat} {t : TypeId} {vs : Array Value} (h : Blk W B t vs) : B < W.heap.size := (Array.getElem?_eq_some_iff.1 h).1
theorem Blk.cell {W : World} {B : Nat} {t : TypeId} {vs : Array Value} (h : Blk W B t vs) (j : Nat) : W.cell? ⟨B, j, none⟩ = vs[j]? := cell_of_row W B j vs t (0, 0) h
theorem Blk.frozen {W : World} {B : Nat} {t : TypeId} {vs : Array Value} (h : Blk W B t vs) (j : Nat) : W.frozen? ⟨B, j, none⟩ = false := frozen_of_row W B j vs t h
theorem Blk.new (W : World) (t : TypeId) (vs : Array Value) : Blk (W.alloc (.cells vs t)) W.heap.size t vs := heap_alloc_new W _
theorem Blk.keep {W W' : World} {B : Nat} {t : TypeId} {vs : Array Value} (h : Blk W B t vs) (hb : Below W.heap.size W W') : Blk W' B t vs := (hb.block B h.lt).trans h
theorem Blk.alloc {W : World} {B : Nat} {t : TypeId} {vs : Array Value} (h : Blk W B t vs) (o : Obj) : Blk (W.alloc o) B t vs := h.keep ((Below.refl _ W).alloc (Nat.le_refl _) o)
theorem Blk.set {W : World} {B : Nat} {t : TypeId} {vs : Array Value} (h : Blk W B t vs) (j : Nat) (v : Value) : Blk (W.setCell ⟨B, j, none⟩ v) B t (vs.setIfInBounds j v) := heap_setCell_same W B j vs t v h
theorem Blk.other {W : World} {B : Nat} {t : TypeId} {vs : Array Value} (h : Blk W B t vs) {B' : Nat} (hne : B ≠ B') (j : Nat) (v : Value) : Blk (W.setCell ⟨B', j, none⟩ v) B t vs := (heap_setCell_other W ⟨B', j, none⟩ B v hne).trans h
theorem Blk.kept {W W' : World} {B g : Nat} {t : TypeId} {vs : Array Value} (h : Blk W B t vs) (hg : W.grownBy W' (some g)) (hne : B ≠ g) : Blk W' B t vs := (hg.block B h.lt (by simpa using hne)).trans h
end
end Go.Proofs.Ytmkcadnpleijdaa
