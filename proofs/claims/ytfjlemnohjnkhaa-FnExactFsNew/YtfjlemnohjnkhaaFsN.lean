/-
  The file system with nothing: made, marked, held.
-/
import Derived.Test.YtfjlemnohjnkhaaRows
import Derived.Test.YtfjlemnohjnkhaaPairs
import Derived.Test.YtfjlemnohjnkhaaSix
import Derived.Test.YtfjlemnohjnkhaaTabM
import Derived.Test.YtfjlemnohjnkhaaPuts
import Derived.Test.YtfjlemnohjnkhaaMarkGI
import Derived.Test.YtfjlemnohjnkhaaTabW
import Derived.Test.YtfjlemnohjnkhaaVolM
import Derived.Test.YtfjlemnohjnkhaaEqFs
import Derived.WalkKit
import Derived.WalkSpells
import Derived.WalkLawsBesides
import Derived.Deep.QuietTactic
import Derived.BigQuiet
import Derived.OpenShut
import Derived.Laws.BitsAllLaws
import Derived.Maps.AppendAt
import Derived.Lib.SliceRun
import Derived.Lib.Strings
import Derived.Deep.RegionWith
import Derived.Laws.IdiomStrings
import Derived.Deep.Slices
import Derived.ProofKit
import Derived.ChangeOld
import Derived.Below
import Derived.Deep.DeepCutAuto
import Derived.Lib.AppendStr
import Derived.Lib.ConvBytes
import Derived.Deep.RegionHeld3
import Derived.Deep.AppendLies
import Derived.Deep.AppendSrc
import Derived.Maps.OwnSet
import Derived.Maps.OwnOps
import Derived.Deep.RegionLaw
import Derived.Lib.Slices
import Derived.Lib.Walk
import Derived.Lib.Bytealg
import Derived.Lib.IndexLaws
import Derived.Lib.BufferWrite
import Derived.Lib.UnsafeStr
import Derived.Laws.MakeOwn
import Derived.Laws.Strings3
import Derived.RangeFuncBox
import Derived.RangeFuncNested
import Derived.RangeFuncBound
import Derived.RangeFuncCalls
import Derived.RangeFuncLeaves
import Derived.Shelf.Abstract
import Derived.Shelf.RegionOpen
import Derived.OwnWalkIn
import Derived.TacticsInMore
import Derived.LoopNIn
import Derived.LoopIn
namespace Go.Proofs.Ytfjlemnohjnkhaa
open Go.RowKit
theorem markVolS_nil (w : World) : Calls Try.prog 21 #[.slice none 0 0, .int .i64 1] w fun e w' => e = .returned (.int .i64 1) ∧ Below w.heap.size w w' := by
  go_enter Try.func21, Try.ntmps21
  go_wp2
  refine wp_loop_rounds 1 ?_; rw [rounds_succ]
  go_wp2
  go_ret
  exact ⟨rfl, Below.refl _ _⟩
theorem heldVolS_nil (w : World) : Calls Try.prog 22 #[.slice none 0 0, .int .i64 1] w fun e w' => e = .returned (.int .i64 1) ∧ Below w.heap.size w w' := by
  go_enter Try.func22, Try.ntmps22
  go_wp2
  refine wp_loop_rounds 1 ?_; rw [rounds_succ]
  go_wp2
  go_ret
  exact ⟨rfl, Below.refl _ _⟩
theorem markFs_nil (nx : Int) (w : World) : Calls Try.prog 10 #[.agg #[.slice none 0 0, .int .i64 nx], .int .i64 1] w fun e w' => e = .returned (.int .i64 1) ∧ Below w.heap.size w w' := by
  have B0 : Below w.heap.size w (w.alloc (.cells #[.slice none 0 0, .int .i64 nx] 24)) := (Below.refl _ w).alloc (Nat.le_refl _) _
  have hc := markVolS_nil (w.alloc (.cells #[.slice none 0 0, .int .i64 nx] 24))
  have HB : Hid _ := B0
  clear B0
  go_enter Try.func10, Try.ntmps10
  go_wp2_with fail
  (with_reducible refine hc.mono ?_)
  rintro e w1 ⟨rfl, b1⟩
  go_wp2
  go_ret
  exact ⟨rfl, HB.out.trans (b1.mono HB.out.size)⟩
theorem heldFs_nil (nx : Int) (w : World) : Calls Try.prog 11 #[.agg #[.slice none 0 0, .int .i64 nx], .int .i64 1] w fun e w' => e = .returned (.int .i64 1) ∧ Below w.heap.size w w' := by
  have B0 : Below w.heap.size w (w.alloc (.cells #[.slice none 0 0, .int .i64 nx] 24)) := (Below.refl _ w).alloc (Nat.le_refl _) _
  have hc := heldVolS_nil (w.alloc (.cells #[.slice none 0 0, .int .i64 nx] 24))
  have HB : Hid _ := B0
  clear B0
  go_enter Try.func11, Try.ntmps11
  go_wp2_with fail
  (with_reducible refine hc.mono ?_)
  rintro e w1 ⟨rfl, b1⟩
  go_wp2
  go_ret
  exact ⟨rfl, HB.out.trans (b1.mono HB.out.size)⟩
theorem fsNewS (w : World) : Calls Try.prog 7 #[] w fun e w' => e = .returned (.agg #[.slice none 0 0, .int .i64 1]) ∧ Below w.heap.size w w' := by
  have HB : Hid (Below w.heap.size w (w.alloc (.cells #[.slice none 0 0, .int .i64 1] 24))) := (Below.refl _ w).alloc (Nat.le_refl _) _
  have z0 := Blk.new w 24 #[.slice none 0 0, .int .i64 1]
  have d0 := z0.cell 0
  have d1 := z0.cell 1
  simp at d0 d1
  clear z0
  go_enter Try.func7, Try.ntmps7
  go_wp2
  refine bodyPost_ret (v := .agg #[.slice none 0 0, .int .i64 1]) (by simp [results, Try.f7, go_sem]) rfl ?_
  exact ⟨rfl, HB.out⟩
theorem fsNewI (w : World) : Calls Try.prog 8 #[] w fun e w' => e = .returned (.agg #[.slice none 0 0, .int .i64 1]) ∧ Below w.heap.size w w' := by
  have HB : Hid (Below w.heap.size w (w.alloc (.cells #[.slice none 0 0, .int .i64 1] 24))) := (Below.refl _ w).alloc (Nat.le_refl _) _
  have z0 := Blk.new w 24 #[.slice none 0 0, .int .i64 1]
  have d0 := z0.cell 0
  have d1 := z0.cell 1
  simp at d0 d1
  clear z0
  go_enter Try.func8, Try.ntmps8
  go_wp2
  refine bodyPost_ret (v := .agg #[.slice none 0 0, .int .i64 1]) (by simp [results, Try.f8, go_sem]) rfl ?_
  exact ⟨rfl, HB.out⟩
theorem eqFs_nil (nx : Int) (w : World) : Calls Try.prog 9 #[.agg #[.slice none 0 0, .int .i64 nx], .agg #[.slice none 0 0, .int .i64 nx]] w fun e w' => e = .returned (.bool true) ∧ Below w.heap.size w w' :=
  eqFs_same none none 0 0 0 nx [] [] w rfl (by omega) rfl (fun _ h => (List.not_mem_nil h).elim) (.inl rfl) (.inl rfl)
end Go.Proofs.Ytfjlemnohjnkhaa
