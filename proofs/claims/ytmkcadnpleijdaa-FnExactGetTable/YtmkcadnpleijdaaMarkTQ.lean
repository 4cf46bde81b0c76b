/-
  The mark that the laws put into a text: markText.
-/
import Derived.Test.YtmkcadnpleijdaaRows
import Derived.Test.YtmkcadnpleijdaaPathQ
import Derived.WalkKit
import Derived.WalkSpells
import Derived.WalkLawsBesides
import Derived.Deep.QuietTactic
import Derived.BigQuiet
import Derived.OpenShut
import Derived.Laws.BitsAllLaws
import Derived.Maps.AppendAt
import Derived.Lib.SliceRun
import Derived.Lib.Strings
import Derived.Deep.RegionWith
import Derived.Laws.IdiomStrings
namespace Go.Proofs.Ytmkcadnpleijdaa
open Go.RowKit
/-- The digits of a number ahead of what is there, fuel f. -/
def mtL : Nat → Nat → Str → Str
  | 0, _, acc => acc
  | f + 1, k, acc => if k = 0 then acc else mtL f (k / 10) ((48 + k % 10).toUInt8 :: acc)
/-- The mark of a number. -/
def mt (k : Nat) : ByteArray := ⟨(109 :: mtL 7 k []).toArray⟩
theorem mtL_zero (f : Nat) (acc : Str) : mtL f 0 acc = acc := by cases f <;> simp [mtL]
theorem mtL_step {f k : Nat} (acc : Str) (h : k ≠ 0) : mtL (f + 1) k acc = mtL f (k / 10) ((48 + k % 10).toUInt8 :: acc) := by
  conv => lhs; unfold mtL
  rw [if_neg h]
theorem app_mk (a b : Str) : (⟨a.toArray⟩ : ByteArray) ++ ⟨b.toArray⟩ = ⟨(a ++ b).toArray⟩ := by
  apply ByteArray.ext
  simp [ByteArray.data_append]
theorem conv_digit (w : World) (m : Nat) : (convert 22 9 (.slice (some ⟨w.heap.size, 0, none⟩) 1 1)).run Try.prog (w.alloc (.cells #[.int .u8 (48 + (m : Int) % 10)] 5)) = .ok (.string ⟨#[(48 + m % 10).toUInt8]⟩) (w.alloc (.cells #[.int .u8 (48 + (m : Int) % 10)] 5)) := by
  refine run_convert_bytes_back _ 22 9 5 ⟨w.heap.size, 0, none⟩ 1 [(48 + m % 10).toUInt8] Try.underlying22 Try.underlying5 Try.underlying9 ?_
  intro j hj
  obtain rfl : j = 0 := by simpa using hj
  have hd : (((48 + m % 10).toUInt8.toNat : Nat) : Int) = 48 + (m : Int) % 10 := by
    have : (48 + m % 10).toUInt8.toNat = 48 + m % 10 := by
      simp only [Nat.toUInt8_eq, UInt8.toNat_ofNat']
      omega
    rw [this]; omega
  simp only [List.getElem_cons_zero, hd]
  exact cell_one_new w (.int .u8 (48 + (m : Int) % 10)) 5 0 _ rfl
end Go.Proofs.Ytmkcadnpleijdaa

