/-
  FsNew answers as its model; its answer owns its memory.
  The frame (all but the walk) is the text that the guide's own program writes for this row.
-/
import Derived.Test.YtfjlemnohjnkhaaRows
import Derived.Test.YtfjlemnohjnkhaaEqFs
import Derived.Test.YtfjlemnohjnkhaaTabW
import Derived.Test.YtfjlemnohjnkhaaFsN
import Derived.WalkKit
import Derived.ProofKit
import Derived.OpenShut
import Derived.ShutString
namespace Go.Proofs.Ytfjlemnohjnkhaa.fnExactFsNew
open Go.ChangeShapes Go.WideShapes Go.ChangeAt Go.RowKit
open Go.ChangeMaps (open_string shut_string)
set_option linter.unusedVariables false      -- a walk need not use every 'w<i>' (that an integer argument fits its kind)

theorem own : ownKnob Try.prog.godebug = none := by kernel_rfl

/-! ### STEP 1: THE WALK: the Go text returns true. 'Grown w w'': the world has at most new blocks (Derived/RowKit3.lean). Part the cases AHEAD of 'go_enter' where a test parts the walk; take each callee by a contract of your own. -/
set_option maxRecDepth 100000 in
set_option maxHeartbeats 4000000 in
theorem walk (w : World) : Calls Try.prog 3 #[] w fun e w' => e = .returned (.bool true) ∧ Below w.heap.size w w' := by
  go_enter Try.func3, Try.ntmps3
  go_wp2_with fail
  refine (fsNewS w).mono ?_
  rintro e w1 ⟨rfl, b1⟩
  have bA : Below w1.heap.size w1 (w1.alloc (.cells #[.slice none 0 0, .int .i64 1] 24)) := (Below.refl _ w1).alloc (Nat.le_refl _) _
  have zS := BoxT.new w1 24 none 0 0 1
  go_wp2_with fail
  obtain ⟨W1, hW1⟩ : ∃ W, w1.alloc (.cells #[.slice none 0 0, .int .i64 1] 24) = W := ⟨_, rfl⟩
  rw [hW1] at bA zS ⊢
  clear hW1
  have B1 := b1.trans (bA.mono b1.size)
  obtain ⟨x1, hx1⟩ : ∃ x, w1.heap.size = x := ⟨_, rfl⟩
  rw [hx1] at zS ⊢
  clear bA b1
  refine (fsNewI W1).mono ?_
  rintro e w2 ⟨rfl, b2⟩
  have B2 := B1.trans (b2.mono B1.size)
  have zS2 := zS.keep b2
  have bB : Below w2.heap.size w2 (w2.alloc (.cells #[.slice none 0 0, .int .i64 1] 24)) := (Below.refl _ w2).alloc (Nat.le_refl _) _
  have zI := BoxT.new w2 24 none 0 0 1
  have zS3 := zS2.keep bB
  obtain ⟨q0, q1⟩ := zS3.two
  clear zS zS2 b2
  go_wp2_with fail
  obtain ⟨W2, hW2⟩ : ∃ W, w2.alloc (.cells #[.slice none 0 0, .int .i64 1] 24) = W := ⟨_, rfl⟩
  rw [hW2] at bB zI zS3 ⊢
  clear hW2 q0 q1
  have B3 := B2.trans (bB.mono B2.size)
  obtain ⟨x2, hx2⟩ : ∃ x, w2.heap.size = x := ⟨_, rfl⟩
  rw [hx2] at zI ⊢
  clear bB B2
  refine (eqFs_nil 1 W2).mono ?_
  rintro e w3 ⟨rfl, b3⟩
  have B4 := B3.trans (b3.mono B3.size)
  have zS4 := zS3.keep b3
  have zI4 := zI.keep b3
  clear zS3 zI b3
  obtain ⟨p0, p1⟩ := zI4.two
  go_wp2_with fail
  refine (markFs_nil 1 w3).mono ?_
  rintro e w4 ⟨rfl, b4⟩
  have B5 := B4.trans (b4.mono B4.size)
  have zS5 := zS4.keep b4
  have zI5 := zI4.keep b4
  clear zS4 zI4 b4 p0 p1
  obtain ⟨p0, p1⟩ := zI5.two
  go_wp2_with fail
  refine (heldFs_nil 1 w4).mono ?_
  rintro e w5 ⟨rfl, b5⟩
  have B6 := B5.trans (b5.mono B5.size)
  have zS6 := zS5.keep b5
  have zI6 := zI5.keep b5
  clear zS5 zI5 b5 p0 p1
  go_wp2_with fail
  refine (fsNewI w5).mono ?_
  rintro e w6 ⟨rfl, b6⟩
  have B7 := B6.trans (b6.mono B6.size)
  have zS7 := zS6.keep b6
  have zI7 := zI6.keep b6
  have bC : Below w6.heap.size w6 (w6.alloc (.cells #[.slice none 0 0, .int .i64 1] 24)) := (Below.refl _ w6).alloc (Nat.le_refl _) _
  have zS8 := zS7.keep bC
  obtain ⟨q0, q1⟩ := zS8.two
  clear zS6 zI6 b6
  go_wp2_with fail
  obtain ⟨W6, hW6⟩ : ∃ W, w6.alloc (.cells #[.slice none 0 0, .int .i64 1] 24) = W := ⟨_, rfl⟩
  rw [hW6] at bC ⊢
  clear hW6 q0 q1 zS8
  have B8 := B7.trans (bC.mono B7.size)
  have zI8 := zI7.keep bC
  clear zS7 zI7 bC
  refine (eqFs_nil 1 W6).mono ?_
  rintro e w7 ⟨rfl, b7⟩
  have B9 := B8.trans (b7.mono B8.size)
  have zI9 := zI8.keep b7
  clear zI8 b7
  obtain ⟨p0, p1⟩ := zI9.two
  go_wp2_with fail
  refine (heldFs_nil 1 w7).mono ?_
  rintro e w8 ⟨rfl, b8⟩
  have B10 := B9.trans (b8.mono B9.size)
  clear zI9 p0 p1 b8
  go_wp2
  go_ret
  exact ⟨rfl, B10⟩

/-! ### THE ROW's STEP: WRITTEN OUT: LEAVE IT -/
set_option maxRecDepth 100000 in
theorem lifted (os : Os) (started : os.Started) (H : Type) (enc : TypeId × Value → H) :
    ReturnsInHanded {} Try.checked os 3 .any (Rows.fnExactFsNewSpec.pre6 enc Try.prog Try.f3 Rows.fnExactFsNewRow.domain false) (Rows.fnExactFsNewSpec.post enc Try.prog Try.f3 false true false false) := by
  refine returnsInHanded_of_change (C := Try.checked) own started (by kernel_rfl) Try.func3
    (ChangeSpec.witness6 (enc := enc) (C := Try.checked) false ⟨#[], #[], []⟩ 8 (by kernel_rfl) (by kernel_rfl) (by kernel_rfl) (by kernel_rfl)) ?_
  intro W base args ds gs before hval0 hW hcnd _
  have hval : ∀ (j : Nat) t v, Try.f3.params[j]? = some t → args[j]? = some v → Value.okWide Try.prog W .any base t v := hval0
  have hW' := hW
  obtain ⟨p, q, hA0, hV, rfl, hfz, hnd⟩ := hW
  have hA : DataW.TrodAll enc Try.prog W 0 (fun _ => true) true Try.f3.params.toList args.toList ds p := hA0
  rw [Try.params3] at hA hval
  obtain ⟨rfl, rfl, rfl⟩ := trodAll_none hA
  obtain ⟨rfl, rfl⟩ := trodVars_none hV
  clear hA0 hval0
  simp only [List.append_nil] at hW'
  refine (walk  W).mono fun e W' ⟨he, bel⟩ => ?_
  subst he
  exact ⟨_, rfl, _, _, _, [], _, [], hW', trodAll_mk1 (shut_bool Try.underlying4 _), rfl, rfl, bel.frame _, fun h => by cases h⟩

theorem over : Rows.fnExactFsNewRow.holds Try.pinned (OpenSpec.ofChange Rows.fnExactFsNewSpec) :=
  OpenClaim.holds_of_wide 3 Try.f3 rfl rfl rfl rfl rfl rfl rfl ⟨rfl, rfl, rfl, rfl, rfl⟩ rfl rfl rfl rfl rfl (by kernel_rfl) Try.func3 (by kernel_rfl)
    (of_decide_eq_true (by kernel_rfl)) (by unfold Func.isWrapper; first | (rw [if_pos (by decide +kernel)]; kernel_rfl) | (rw [if_neg (by decide +kernel)]; exact ⟨rfl, rfl⟩))
    (fun os started H enc _ => lifted os started H enc)

/-- ████ THE STATEMENT ████ -/
theorem proved : Rows.FnExactFsNewSaid :=
  over
#print axioms proved
end Go.Proofs.Ytfjlemnohjnkhaa.fnExactFsNew
