/-
  The laws' marks in entries, attributes and inodes: put and asked for.
-/
import Derived.Test.YtmkcadnpleijdaaMarkTQ
import Derived.Test.YtmkcadnpleijdaaPairsQ
import Derived.ProofKit
import Derived.ChangeOld
import Derived.Below
import Derived.Deep.DeepCutAuto
namespace Go.Proofs.Ytmkcadnpleijdaa
open Go.RowKit
set_option maxHeartbeats 1000000 in
set_option maxRecDepth 100000 in
theorem markText_big (k : Nat) (w : World) (hk : k ≤ 9999999) (h1 : 1 ≤ k) :
    Calls Try.prog 70 #[.int .i64 k] w fun e w' => e = .returned (.string (mt k)) ∧ Below w.heap.size w w' := by
  have hk1 : ¬ (k : Int) ≤ 0 := by omega
  go_enter Try.func70, Try.ntmps70
  go_wp2
  go_loopw [0, 3] (fun i v wr => ∃ (m f : Nat) (acc : Str), i = .int .i64 m ∧ m ≤ k ∧ v = .string ⟨acc.toArray⟩ ∧ m < 10 ^ f ∧ acc.length + f ≤ 7 ∧ Below w.heap.size w wr ∧ Hid (mtL 7 k [] = mtL f m acc)) (fun i _ _ => (intOf i).toNat)
  case atStart => exact ⟨k, 7, [], rfl, Nat.le_refl _, rfl, by omega, by simp, Below.refl _ _, rfl⟩
  case round =>
    obtain ⟨m, f, acc, rfl, hm, rfl, hf, hl, hB, he⟩ := hrel
    by_cases hm0 : m = 0
    · subst hm0
      have he' : Hid (mt k = ⟨(109 :: acc).toArray⟩) := by show _ = _; unfold mt; rw [he.out, mtL_zero]
      go_wp2
      go_ret
      refine ⟨?_, hB⟩
      rw [he'.out]
      show Ending.returned (.string (⟨#[109]⟩ ++ ⟨List.toArray acc⟩)) = _
      rw [app_mk]
      rfl
    · have hm1 : (0 : Int) < (m : Int) := by omega
      obtain ⟨f', rfl⟩ : ∃ f', f = f' + 1 := by
        cases f with
        | zero => simp at hf; omega
        | succ f' => exact ⟨f', rfl⟩
      have hcv := conv_digit wr m
      have he0 := mtL_step (f := f') acc hm0
      obtain ⟨d, hd⟩ : ∃ d, (48 + m % 10).toUInt8 = d := ⟨_, rfl⟩
      rw [hd] at hcv he0
      have he' : Hid (mtL 7 k [] = mtL f' (m / 10) (d :: acc)) := by show _ = _; rw [he.out, he0]
      have happ := app_mk [d] acc
      clear he hd he0
      go_wp2
      go_roundw
      case rel => exact ⟨m / 10, f', d :: acc, by go_num, by omega, by first | rfl | exact congrArg Value.string happ, Nat.div_lt_of_lt_mul (by rw [Nat.pow_succ] at hf; omega), by simp only [List.length_cons]; omega, hB.trans ((Below.refl _ wr).alloc hB.size _), he'⟩
      case measure => simp [intOf]; omega
end Go.Proofs.Ytmkcadnpleijdaa

