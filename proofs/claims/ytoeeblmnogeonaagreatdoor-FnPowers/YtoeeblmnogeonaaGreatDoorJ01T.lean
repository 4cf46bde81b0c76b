/-
  Joined: Mark, Path, Name, MarkT.
-/
import Derived.Test.YtoeeblmnogeonaaGreatDoorJ00T
import Derived.Lib.Strings
import Derived.Deep.RegionWith
import Derived.Laws.IdiomStrings
namespace Go.Proofs.YtoeeblmnogeonaaGreatDoor
section
open Go.RowKit
theorem encGo_len (f m : Nat) : (encGo f m).length ≤ f + 1 := by
  induction f generalizing m with
  | zero => simp [encGo]
  | succ f ih =>
    unfold encGo
    split
    · have := ih (m / 128); simp only [List.length_cons]; omega
    · simp
theorem enc_len (x : Int) : (enc x).length ≤ 4 := encGo_len 3 _
theorem Own.kept {w w' : World} {g n c g2 : Nat} {zs : List Int} (h : Own w g n c zs) (hg : w.grownBy w' (some g2)) (hne : g ≠ g2) : Own w' g n c zs :=
  World.ownsRow.kept h hg (.inr (by simp [Value.ownBlock, hne]))
end

section
abbrev Str := List UInt8
end

section
open Go.RowKit
theorem ret_bool {a b : Bool} (h : a = b) : Ending.returned (.bool a) = .returned (.bool b) := by rw [h]
set_option maxHeartbeats 400000 in
theorem l1In_any (x lo hi : Int) (w : World) : Calls Tryz.prog 70 #[.int .i64 x, .int .i64 lo, .int .i64 hi] w fun e w' => e = .returned (.bool (decide (lo ≤ x) && decide (x ≤ hi))) ∧ w' = w := by
  go_enter Tryz.func70, Tryz.ntmps70
  go_wp2
  all_goals go_ret
  all_goals (refine ⟨ret_bool ?_, rfl⟩; simp; try omega)
/-- The k-th byte of a text. -/
def byt (s : ByteArray) (k : Nat) : UInt8 := s.data.toList.getD k 0
end

section
open Go.RowKit
/-- The digits of a number ahead of what is there, fuel f. -/
def mtL : Nat → Nat → Str → Str
  | 0, _, acc => acc
  | f + 1, k, acc => if k = 0 then acc else mtL f (k / 10) ((48 + k % 10).toUInt8 :: acc)
/-- The mark of a number. -/
def mt (k : Nat) : ByteArray := ⟨(109 :: mtL 7 k []).toArray⟩
end
end Go.Proofs.YtoeeblmnogeonaaGreatDoor
