/-
  The mark that the laws put into a text: markText.
-/
import Derived.Test.YtnadeelnjhollaaGreatRows
import Derived.Test.YtnadeelnjhollaaGreatPathV
import Derived.WalkKit
import Derived.WalkSpells
import Derived.WalkLawsBesides
import Derived.Deep.QuietTactic
import Derived.BigQuiet
import Derived.OpenShut
import Derived.Laws.BitsAllLaws
import Derived.Maps.AppendAt
import Derived.Lib.SliceRun
import Derived.Lib.Strings
import Derived.Deep.RegionWith
import Derived.Laws.IdiomStrings
namespace Go.Proofs.YtnadeelnjhollaaGreat
open Go.RowKit
/-- The digits of a number ahead of what is there, fuel f. -/
def mtL : Nat → Nat → Str → Str
  | 0, _, acc => acc
  | f + 1, k, acc => if k = 0 then acc else mtL f (k / 10) ((48 + k % 10).toUInt8 :: acc)
/-- The mark of a number. -/
def mt (k : Nat) : ByteArray := ⟨(109 :: mtL 7 k []).toArray⟩
theorem mtL_zero (f : Nat) (acc : Str) : mtL f 0 acc = acc := by cases f <;> simp [mtL]
theorem mtL_step {f k : Nat} (acc : Str) (h : k ≠ 0) : mtL (f + 1) k acc = mtL f (k / 10) ((48 + k % 10).toUInt8 :: acc) := by
  conv => lhs; unfold mtL
  rw [if_neg h]
theorem app_mk (a b : Str) : (⟨a.toArray⟩ : ByteArray) ++ ⟨b.toArray⟩ = ⟨(a ++ b).toArray⟩ := by
  apply ByteArray.ext
  simp [ByteArray.data_append]
theorem conv_digit (w : World) (m : Nat) : (convert 37 9 (.slice (some ⟨w.heap.size, 0, none⟩) 1 1)).run Tryz.prog (w.alloc (.cells #[.int .u8 (48 + (m : Int) % 10)] 5)) = .ok (.string ⟨#[(48 + m % 10).toUInt8]⟩) (w.alloc (.cells #[.int .u8 (48 + (m : Int) % 10)] 5)) := by
  refine run_convert_bytes_back _ 37 9 5 ⟨w.heap.size, 0, none⟩ 1 [(48 + m % 10).toUInt8] Tryz.underlying37 Tryz.underlying5 Tryz.underlying9 ?_
  intro j hj
  obtain rfl : j = 0 := by simpa using hj
  have hd : (((48 + m % 10).toUInt8.toNat : Nat) : Int) = 48 + (m : Int) % 10 := by
    have : (48 + m % 10).toUInt8.toNat = 48 + m % 10 := by
      simp only [Nat.toUInt8_eq, UInt8.toNat_ofNat']
      omega
    rw [this]; omega
  simp only [List.getElem_cons_zero, hd]
  exact cell_one_new w (.int .u8 (48 + (m : Int) % 10)) 5 0 _ rfl
set_option maxHeartbeats 1000000 in
set_option maxRecDepth 100000 in
theorem markText_any (k : Nat) (w : World) (hk : k ≤ 1000000) (h1 : 1 ≤ k) :
    Calls Tryz.prog 30 #[.int .i64 k] w fun e w' => e = .returned (.string (mt k)) ∧ Below w.heap.size w w' := by
  have hk1 : ¬ (k : Int) ≤ 0 := by omega
  go_enter Tryz.func30, Tryz.ntmps30
  go_wp2
  go_loopw [0, 3] (fun i v wr => ∃ (m f : Nat) (acc : Str), i = .int .i64 m ∧ m ≤ k ∧ v = .string ⟨acc.toArray⟩ ∧ m < 10 ^ f ∧ acc.length + f ≤ 7 ∧ Below w.heap.size w wr ∧ Hid (mtL 7 k [] = mtL f m acc)) (fun i _ _ => (intOf i).toNat)
  case atStart => exact ⟨k, 7, [], rfl, Nat.le_refl _, rfl, by omega, by simp, Below.refl _ _, rfl⟩
  case round =>
    obtain ⟨m, f, acc, rfl, hm, rfl, hf, hl, hB, he⟩ := hrel
    by_cases hm0 : m = 0
    · subst hm0
      have he' : Hid (mt k = ⟨(109 :: acc).toArray⟩) := by show _ = _; unfold mt; rw [he.out, mtL_zero]
      go_wp2
      go_ret
      refine ⟨?_, hB⟩
      rw [he'.out]
      show Ending.returned (.string (⟨#[109]⟩ ++ ⟨List.toArray acc⟩)) = _
      rw [app_mk]
      rfl
    · have hm1 : (0 : Int) < (m : Int) := by omega
      obtain ⟨f', rfl⟩ : ∃ f', f = f' + 1 := by
        cases f with
        | zero => simp at hf; omega
        | succ f' => exact ⟨f', rfl⟩
      have hcv := conv_digit wr m
      have he0 := mtL_step (f := f') acc hm0
      obtain ⟨d, hd⟩ : ∃ d, (48 + m % 10).toUInt8 = d := ⟨_, rfl⟩
      rw [hd] at hcv he0
      have he' : Hid (mtL 7 k [] = mtL f' (m / 10) (d :: acc)) := by show _ = _; rw [he.out, he0]
      have happ := app_mk [d] acc
      clear he hd he0
      go_wp2
      go_roundw
      case rel => exact ⟨m / 10, f', d :: acc, by go_num, by omega, by first | rfl | exact congrArg Value.string happ, Nat.div_lt_of_lt_mul (by rw [Nat.pow_succ] at hf; omega), by simp only [List.length_cons]; omega, hB.trans ((Below.refl _ wr).alloc hB.size _), he'⟩
      case measure => simp [intOf]; omega
theorem gr_of_below {w w' : World} (h : Below w.heap.size w w') (r : Option Nat) : w.grownBy w' r := ⟨h.os, h.tape, h.output, h.size, fun k hk _ => h.block k hk⟩
end Go.Proofs.YtnadeelnjhollaaGreat
