/-
  FnExactTabNew: the law of TabNew answers true; no condition.
  The frame (all but the walk) is the text that the guide's own program writes for this row.
-/
import Derived.Test.YtnllhpeddoaehaaRows
import Derived.Test.YtnllhpeddoaehaaTabNew
import Derived.WalkKit
import Derived.ProofKit
import Derived.OpenShut
import Derived.ShutString
namespace Go.Proofs.Ytnllhpeddoaehaa.fnExactTabNew
open Go.ChangeShapes Go.WideShapes Go.ChangeAt Go.RowKit
open Go.ChangeMaps (open_string shut_string)
set_option linter.unusedVariables false      -- a walk need not use every 'w<i>' (that an integer argument fits its kind)

theorem own : ownKnob Try.prog.godebug = none := by kernel_rfl

/-! ### STEP 1: THE WALK: the Go text returns true. 'Grown w w'': the world has at most new blocks (Derived/RowKit3.lean). Part the cases AHEAD of 'go_enter' where a test parts the walk; take each callee by a contract of your own. -/
theorem one_ap (g : Nat) : ApJ g g (g + 1) [⟨ino1, g + 1, g + 1⟩] := by
  refine ⟨fun i i' j j' h h' hne => ?_, fun i j h => ?_, fun i j h => ?_, by omega⟩
  · cases i with
    | zero => cases i' with
      | zero => exact absurd rfl hne
      | succ i' => simp at h'
    | succ i => simp at h
  · cases i with
    | zero => simp at h; subst h; simp only; omega
    | succ i => simp at h
  · cases i with
    | zero => simp at h; subst h; simp only; omega
    | succ i => simp at h
theorem one_G (w : World) (g : Nat) : ∀ (i : Nat) (j : InoJ), ([⟨ino1, g + 1, g + 1⟩] : List InoJ)[i]? = some j → j.G w := by
  intro i j h
  cases i with
  | zero =>
    simp at h
    subst h
    exact ⟨RowB.nil _, fun z hz => by simp [ino1] at hz, ownQ_nil _ _, ownQ_nil _ _, fun m hm => by simp [InoJ.v1, InoJ.v2, InoJ.v3, ino1, Value.ownBlock] at hm⟩
  | succ i => simp at h
theorem one_q (g : Nat) : qAt 1 [⟨ino1, g + 1, g + 1⟩] 1 = 4 := rfl
theorem eq_one (g g' : Nat) (w : World) (h : OwnI w g 1 1 [ino1]) (h' : OwnI w g' 1 1 [ino1]) :
    Calls Try.prog 40 #[.agg #[.slice (some ⟨g, 0, none⟩) 1 1, .int .i64 2], .agg #[.slice (some ⟨g', 0, none⟩) 1 1, .int .i64 2]] w fun e w' => e = .returned (.bool true) ∧ Below w.heap.size w w' :=
  eqTab_same _ _ 1 1 1 2 [ino1] [ino1] w rfl (by omega) rfl (fun r hr => by simp at hr; subst hr; exact ino1_small) (h.rds fun r hr => by simp at hr; subst hr; exact ino1_rd w) (h'.rds fun r hr => by simp at hr; subst hr; exact ino1_rd w)
set_option maxRecDepth 100000 in
set_option maxHeartbeats 4000000 in
theorem walk (w : World) : Calls Try.prog 7 #[] w fun e w' => e = .returned (.bool true) ∧ Below w.heap.size w w' := by
  go_enter Try.func7, Try.ntmps7
  go_wp2_with fail
  refine (tabNewS w).mono ?_
  rintro e w1 ⟨gS, rfl, hS, oS, b1⟩
  have bA : Below w1.heap.size w1 (w1.alloc (.cells #[.slice (some ⟨gS, 0, none⟩) 1 1, .int .i64 2] 43)) := (Below.refl _ w1).alloc (Nat.le_refl _) _
  have zS := BoxT.new w1 43 (some ⟨gS, 0, none⟩) 1 1 2
  go_wp2_with fail
  obtain ⟨W1, hW1⟩ : ∃ W, w1.alloc (.cells #[.slice (some ⟨gS, 0, none⟩) 1 1, .int .i64 2] 43) = W := ⟨_, rfl⟩
  rw [hW1] at bA zS ⊢
  clear hW1
  have B1 := b1.trans (bA.mono b1.size)
  have oS1 := oS.keep bA
  have hzS := zS.lt
  have hoS := oS.lt
  obtain ⟨x1, hx1⟩ : ∃ x, w1.heap.size = x := ⟨_, rfl⟩
  rw [hx1] at zS hzS hoS ⊢
  clear oS bA b1
  refine (tabNewI W1).mono ?_
  rintro e w2 ⟨gI, rfl, hI, oI, b2⟩
  have B2 := B1.trans (b2.mono B1.size)
  have oS2 := oS1.keep b2
  have zS2 := zS.keep b2
  have bB : Below w2.heap.size w2 (w2.alloc (.cells #[.slice (some ⟨gI, 0, none⟩) 1 1, .int .i64 2] 43)) := (Below.refl _ w2).alloc (Nat.le_refl _) _
  have zI := BoxT.new w2 43 (some ⟨gI, 0, none⟩) 1 1 2
  have zS3 := zS2.keep bB
  obtain ⟨q0, q1⟩ := zS3.two
  have hoI := oI.lt
  clear oS1 zS b2
  go_wp2_with fail
  obtain ⟨W2, hW2⟩ : ∃ W, w2.alloc (.cells #[.slice (some ⟨gI, 0, none⟩) 1 1, .int .i64 2] 43) = W := ⟨_, rfl⟩
  rw [hW2] at bB zI zS3 ⊢
  clear hW2 q0 q1
  have B3 := B2.trans (bB.mono B2.size)
  have oS3 := oS2.keep bB
  have oI3 := oI.keep bB
  have hzI := zI.lt
  have hsW2 := bB.size
  obtain ⟨x2, hx2⟩ : ∃ x, w2.heap.size = x := ⟨_, rfl⟩
  rw [hx2] at zI hzI hoI hsW2 ⊢
  clear oS2 oI zS2 bB B2
  refine (eq_one gI gS W2 oI3 oS3).mono ?_
  rintro e w3 ⟨rfl, b3⟩
  have B4 := B3.trans (b3.mono B3.size)
  have oS4 := oS3.keep b3
  have oI4 := oI3.keep b3
  have zS4 := zS3.keep b3
  have zI4 := zI.keep b3
  have hs3 := b3.size
  clear oS3 oI3 zS3 zI b3
  obtain ⟨p0, p1⟩ := zI4.two
  have hM := markTab_any 2 gI 1 1 gI (gI + 1) 1 [⟨ino1, gI + 1, gI + 1⟩] w3 rfl (Nat.le_refl _) (by omega) (by rw [one_q]; omega) (one_ap gI) (by omega) oI4 (one_G w3 gI)
  rw [one_q] at hM
  go_wp2_with fail
  refine hM.mono ?_
  rintro e w4 ⟨rfl, hT⟩
  have hout := hT.out
  have B5 : Below w.heap.size w w4 := Below.outs B4 hout (by omega) (Nat.le_refl _)
  have hs4 := hout.size
  have oS5 := oS4.outs hout (by omega)
  have zS5 : BoxT w4 x1 43 (some ⟨gS, 0, none⟩) 1 1 2 := Blk.outs zS4 hout (by omega)
  have zI5 : BoxT w4 x2 43 (some ⟨gI, 0, none⟩) 1 1 2 := Blk.outs zI4 hout (by omega)
  clear oS4 oI4 zS4 zI4 hout p0 p1 hM
  obtain ⟨p0, p1⟩ := zI5.two
  have hH := heldTab_any w3 2 gI 1 1 gI (gI + 1) 1 [⟨ino1, gI + 1, gI + 1⟩] w4 rfl (Nat.le_refl _) (by omega) (by rw [one_q]; omega) (one_ap gI) (by omega) hT
  rw [one_q] at hH
  go_wp2_with fail
  refine hH.mono ?_
  rintro e w5 ⟨rfl, b5⟩
  have B6 := B5.trans (b5.mono B5.size)
  have hT6 := hT.keep (one_ap gI) (by omega) b5
  have oS6 := oS5.keep b5
  have zS6 := zS5.keep b5
  have zI6 := zI5.keep b5
  have hs5 := b5.size
  clear hT oS5 zS5 zI5 b5 p0 p1 hH
  go_wp2_with fail
  refine (tabNewI w5).mono ?_
  rintro e w6 ⟨gJ, rfl, hJ, oJ, b6⟩
  have B7 := B6.trans (b6.mono B6.size)
  have hT7 := hT6.keep (one_ap gI) (by omega) b6
  have oS7 := oS6.keep b6
  have zS7 := zS6.keep b6
  have zI7 := zI6.keep b6
  have hs6 := b6.size
  have bC : Below w6.heap.size w6 (w6.alloc (.cells #[.slice (some ⟨gJ, 0, none⟩) 1 1, .int .i64 2] 43)) := (Below.refl _ w6).alloc (Nat.le_refl _) _
  have zS8 := zS7.keep bC
  obtain ⟨q0, q1⟩ := zS8.two
  clear hT6 oS6 zS6 zI6 b6
  go_wp2_with fail
  obtain ⟨W6, hW6⟩ : ∃ W, w6.alloc (.cells #[.slice (some ⟨gJ, 0, none⟩) 1 1, .int .i64 2] 43) = W := ⟨_, rfl⟩
  rw [hW6] at bC ⊢
  clear hW6 q0 q1 zS8
  have B8 := B7.trans (bC.mono B7.size)
  have hT8 := hT7.keep (one_ap gI) (by omega) bC
  have oS8 := oS7.keep bC
  have oJ8 := oJ.keep bC
  have zI8 := zI7.keep bC
  have hsW6 := bC.size
  clear hT7 oS7 oJ zS7 zI7 bC
  refine (eq_one gJ gS W6 oJ8 oS8).mono ?_
  rintro e w7 ⟨rfl, b7⟩
  have B9 := B8.trans (b7.mono B8.size)
  have hT9 := hT8.keep (one_ap gI) (by omega) b7
  have zI9 := zI8.keep b7
  have hs7 := b7.size
  clear hT8 oS8 oJ8 zI8 b7
  obtain ⟨p0, p1⟩ := zI9.two
  have hH := heldTab_any w3 2 gI 1 1 gI (gI + 1) 1 [⟨ino1, gI + 1, gI + 1⟩] w7 rfl (Nat.le_refl _) (by omega) (by rw [one_q]; omega) (one_ap gI) (by omega) hT9
  rw [one_q] at hH
  go_wp2_with fail
  refine hH.mono ?_
  rintro e w8 ⟨rfl, b8⟩
  have B10 := B9.trans (b8.mono B9.size)
  clear hT9 zI9 p0 p1 hH b8
  go_wp2
  go_ret
  exact ⟨rfl, B10⟩

/-! ### THE ROW's STEP: WRITTEN OUT: LEAVE IT -/
set_option maxRecDepth 100000 in
theorem lifted (os : Os) (started : os.Started) (H : Type) (enc : TypeId × Value → H) :
    ReturnsInHanded {} Try.checked os 7 .any (Rows.fnExactTabNewSpec.pre6 enc Try.prog Try.f7 Rows.fnExactTabNewRow.domain false) (Rows.fnExactTabNewSpec.post enc Try.prog Try.f7 false true false false) := by
  refine returnsInHanded_of_change (C := Try.checked) own started (by kernel_rfl) Try.func7
    (ChangeSpec.witness6 (enc := enc) (C := Try.checked) false ⟨#[], #[], []⟩ 8 (by kernel_rfl) (by kernel_rfl) (by kernel_rfl) (by kernel_rfl)) ?_
  intro W base args ds gs before hval0 hW hcnd _
  have hval : ∀ (j : Nat) t v, Try.f7.params[j]? = some t → args[j]? = some v → Value.okWide Try.prog W .any base t v := hval0
  have hW' := hW
  obtain ⟨p, q, hA0, hV, rfl, hfz, hnd⟩ := hW
  have hA : DataW.TrodAll enc Try.prog W 0 (fun _ => true) true Try.f7.params.toList args.toList ds p := hA0
  rw [Try.params7] at hA hval
  obtain ⟨rfl, rfl, rfl⟩ := trodAll_none hA
  obtain ⟨rfl, rfl⟩ := trodVars_none hV
  clear hA0 hval0
  simp only [List.append_nil] at hW'
  refine (walk  W).mono fun e W' ⟨he, bel⟩ => ?_
  subst he
  exact ⟨_, rfl, _, _, _, [], _, [], hW', trodAll_mk1 (shut_bool Try.underlying4 _), rfl, rfl, bel.frame _, fun h => by cases h⟩

theorem over : Rows.fnExactTabNewRow.holds Try.pinned (OpenSpec.ofChange Rows.fnExactTabNewSpec) :=
  OpenClaim.holds_of_wide 7 Try.f7 rfl rfl rfl rfl rfl rfl rfl ⟨rfl, rfl, rfl, rfl, rfl⟩ rfl rfl rfl rfl rfl (by kernel_rfl) Try.func7 (by kernel_rfl)
    (of_decide_eq_true (by kernel_rfl)) (by unfold Func.isWrapper; first | (rw [if_pos (by decide +kernel)]; kernel_rfl) | (rw [if_neg (by decide +kernel)]; exact ⟨rfl, rfl⟩))
    (fun os started H enc _ => lifted os started H enc)

/-- ████ THE STATEMENT ████ -/
theorem proved : Rows.FnExactTabNewSaid :=
  over
#print axioms proved
end Go.Proofs.Ytnllhpeddoaehaa.fnExactTabNew
