/-
  ImageNew and the specification's are the same image: FsNew, a table with Next 1, no maps, and -1 and -1; each in memory of its own.
  The frame (all but the walk) is the text that the guide's own program writes for this row.
-/
import Derived.Test.YteefhgbbanpniaaRows
import Derived.Test.YteefhgbbanpniaaJ08I
import Derived.WalkKit
import Derived.ProofKit
import Derived.OpenShut
import Derived.ShutString
namespace Go.Proofs.Yteefhgbbanpniaa.fnExactImageNew
open Go.ChangeShapes Go.WideShapes Go.ChangeAt Go.RowKit
open Go.ChangeMaps (open_string shut_string)
set_option linter.unusedVariables false      -- a walk need not use every 'w<i>' (that an integer argument fits its kind)

theorem own : ownKnob Try.prog.godebug = none := by kernel_rfl

/-! ### STEP 1: THE WALK: the Go text returns true. 'Grown w w'': the world has at most new blocks (Derived/RowKit3.lean). Part the cases AHEAD of 'go_enter' where a test parts the walk; take each callee by a contract of your own. -/
set_option maxRecDepth 100000 in
set_option maxHeartbeats 4000000 in
theorem walk (w : World) : Calls Try.prog 3 #[] w fun e w' => e = .returned (.bool true) ∧ Below w.heap.size w w' := by
  go_enter Try.func3, Try.ntmps3
  go_wp2_with fail
  (with_reducible refine (imageNewS _).mono ?_)
  rintro e w1 ⟨rfl, b1⟩
  have B1 := (Below.refl w.heap.size w).trans (b1.mono (Below.refl w.heap.size w).size)
  clear b1
  have a1 : Below w1.heap.size w1 (w1.alloc (.cells #[.slice none 0 0, .int .i64 1, .int .i64 1, .slice none 0 0, .slice none 0 0, .int .i64 (-1), .int .i64 (-1)] 30)) := (Below.refl _ _).alloc (Nat.le_refl _) _
  have zSn1 := Blk.new w1 30 #[.slice none 0 0, .int .i64 1, .int .i64 1, .slice none 0 0, .slice none 0 0, .int .i64 (-1), .int .i64 (-1)]
  have B1a := B1.trans (a1.mono B1.size)
  clear a1 B1 
  go_wp2_with fail
  (with_reducible refine (imageNewI _).mono ?_)
  rintro e w2 ⟨rfl, b2⟩
  have B2 := B1a.trans (b2.mono B1a.size)
  have zS2 := zSn1.keep b2
  clear zSn1 b2
  have a2 : Below w2.heap.size w2 (w2.alloc (.cells #[.slice none 0 0, .int .i64 1, .int .i64 1, .slice none 0 0, .slice none 0 0, .int .i64 (-1), .int .i64 (-1)] 30)) := (Below.refl _ _).alloc (Nat.le_refl _) _
  have zIn2 := Blk.new w2 30 #[.slice none 0 0, .int .i64 1, .int .i64 1, .slice none 0 0, .slice none 0 0, .int .i64 (-1), .int .i64 (-1)]
  have zS2a := zS2.keep a2
  have B2a := B2.trans (a2.mono B2.size)
  clear a2 B2 zS2
  obtain ⟨i0, i1, i2, i3, i4, i5, i6⟩ := zIn2.img
  obtain ⟨s0, s1, s2, s3, s4, s5, s6⟩ := zS2a.img
  go_wp2_with fail
  (with_reducible refine (eqImage_nil _).mono ?_)
  rintro e w3 ⟨rfl, b3⟩
  have B3 := B2a.trans (b3.mono B2a.size)
  have zS3 := zS2a.keep b3
  have zI3 := zIn2.keep b3
  clear i0 i1 i2 i3 i4 i5 i6 s0 s1 s2 s3 s4 s5 s6
  clear zS2a zIn2 b3
  obtain ⟨i0, i1, i2, i3, i4, i5, i6⟩ := zI3.img
  go_wp2_with fail
  (with_reducible refine (markImage_nil _).mono ?_)
  rintro e w4 ⟨rfl, b4⟩
  have B4 := B3.trans (b4.mono B3.size)
  have zS4 := zS3.keep b4
  have zI4 := zI3.keep b4
  clear i0 i1 i2 i3 i4 i5 i6
  clear zS3 zI3 b4
  obtain ⟨i0, i1, i2, i3, i4, i5, i6⟩ := zI4.img
  go_wp2_with fail
  (with_reducible refine (heldImage_nil _).mono ?_)
  rintro e w5 ⟨rfl, b5⟩
  have B5 := B4.trans (b5.mono B4.size)
  have zS5 := zS4.keep b5
  have zI5 := zI4.keep b5
  clear i0 i1 i2 i3 i4 i5 i6
  clear zS4 zI4 b5
  go_wp2_with fail
  (with_reducible refine (imageNewI _).mono ?_)
  rintro e w6 ⟨rfl, b6⟩
  have B6 := B5.trans (b6.mono B5.size)
  have zS6 := zS5.keep b6
  have zI6 := zI5.keep b6
  clear zS5 zI5 b6
  have a6 : Below w6.heap.size w6 (w6.alloc (.cells #[.slice none 0 0, .int .i64 1, .int .i64 1, .slice none 0 0, .slice none 0 0, .int .i64 (-1), .int .i64 (-1)] 30)) := (Below.refl _ _).alloc (Nat.le_refl _) _
  have zJn6 := Blk.new w6 30 #[.slice none 0 0, .int .i64 1, .int .i64 1, .slice none 0 0, .slice none 0 0, .int .i64 (-1), .int .i64 (-1)]
  have zS6a := zS6.keep a6
  have zI6a := zI6.keep a6
  have B6a := B6.trans (a6.mono B6.size)
  clear a6 B6 zS6 zI6
  obtain ⟨j0, j1, j2, j3, j4, j5, j6⟩ := zJn6.img
  obtain ⟨s0, s1, s2, s3, s4, s5, s6⟩ := zS6a.img
  go_wp2_with fail
  (with_reducible refine (eqImage_nil _).mono ?_)
  rintro e w7 ⟨rfl, b7⟩
  have B7 := B6a.trans (b7.mono B6a.size)
  have zS7 := zS6a.keep b7
  have zI7 := zI6a.keep b7
  have zJ7 := zJn6.keep b7
  clear j0 j1 j2 j3 j4 j5 j6 s0 s1 s2 s3 s4 s5 s6
  clear zS6a zI6a zJn6 b7
  obtain ⟨i0, i1, i2, i3, i4, i5, i6⟩ := zI7.img
  go_wp2_with fail
  (with_reducible refine (heldImage_nil _).mono ?_)
  rintro e w8 ⟨rfl, b8⟩
  have B8 := B7.trans (b8.mono B7.size)
  have zS8 := zS7.keep b8
  have zI8 := zI7.keep b8
  have zJ8 := zJ7.keep b8
  clear i0 i1 i2 i3 i4 i5 i6
  clear zS7 zI7 zJ7 b8
  go_wp2
  go_ret
  exact ⟨rfl, B8⟩

/-! ### THE ROW's STEP: WRITTEN OUT: LEAVE IT -/
set_option maxRecDepth 100000 in
theorem lifted (os : Os) (started : os.Started) (H : Type) (enc : TypeId × Value → H) :
    ReturnsInHanded {} Try.checked os 3 .any (Rows.fnExactImageNewSpec.pre6 enc Try.prog Try.f3 Rows.fnExactImageNewRow.domain false) (Rows.fnExactImageNewSpec.post enc Try.prog Try.f3 false true false false) := by
  refine returnsInHanded_of_change (C := Try.checked) own started (by kernel_rfl) Try.func3
    (ChangeSpec.witness6 (enc := enc) (C := Try.checked) false ⟨#[], #[], []⟩ 8 (by kernel_rfl) (by kernel_rfl) (by kernel_rfl) (by kernel_rfl)) ?_
  intro W base args ds gs before hval0 hW hcnd _
  have hval : ∀ (j : Nat) t v, Try.f3.params[j]? = some t → args[j]? = some v → Value.okWide Try.prog W .any base t v := hval0
  have hW' := hW
  obtain ⟨p, q, hA0, hV, rfl, hfz, hnd⟩ := hW
  have hA : DataW.TrodAll enc Try.prog W 0 (fun _ => true) true Try.f3.params.toList args.toList ds p := hA0
  rw [Try.params3] at hA hval
  obtain ⟨rfl, rfl, rfl⟩ := trodAll_none hA
  obtain ⟨rfl, rfl⟩ := trodVars_none hV
  clear hA0 hval0
  simp only [List.append_nil] at hW'
  refine (walk  W).mono fun e W' ⟨he, bel⟩ => ?_
  subst he
  exact ⟨_, rfl, _, _, _, [], _, [], hW', trodAll_mk1 (shut_bool Try.underlying4 _), rfl, rfl, bel.frame _, fun h => by cases h⟩

theorem over : Rows.fnExactImageNewRow.holds Try.pinned (OpenSpec.ofChange Rows.fnExactImageNewSpec) :=
  OpenClaim.holds_of_wide 3 Try.f3 rfl rfl rfl rfl rfl rfl rfl ⟨rfl, rfl, rfl, rfl, rfl⟩ rfl rfl rfl rfl rfl (by kernel_rfl) Try.func3 (by kernel_rfl)
    (of_decide_eq_true (by kernel_rfl)) (by unfold Func.isWrapper; first | (rw [if_pos (by decide +kernel)]; kernel_rfl) | (rw [if_neg (by decide +kernel)]; exact ⟨rfl, rfl⟩))
    (fun os started H enc _ => lifted os started H enc)

/-- ████ THE STATEMENT ████ -/
theorem proved : Rows.FnExactImageNewSaid :=
  over
#print axioms proved
end Go.Proofs.Yteefhgbbanpniaa.fnExactImageNew
