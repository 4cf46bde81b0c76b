/-
  At every text SplitPath answers as the specification's, in memory of its own, and keeps nothing; without a condition.
  The frame (all but the walk) is the text that the guide's own program writes for this row.
-/
import Derived.Test.YtgdloohafkanhaaRows
import Derived.Test.YtgdloohafkanhaaPath
import Derived.Test.YtgdloohafkanhaaName
import Derived.Test.YtgdloohafkanhaaCut
import Derived.Test.YtgdloohafkanhaaIter
import Derived.Test.YtgdloohafkanhaaSplit
import Derived.Test.YtgdloohafkanhaaSplitS
import Derived.Test.YtgdloohafkanhaaMarks
import Derived.Test.YtgdloohafkanhaaEqs
import Derived.WalkKit
import Derived.ProofKit
import Derived.OpenShut
import Derived.ShutString
namespace Go.Proofs.Ytgdloohafkanhaa.fnExactSplitPath
open Go.ChangeShapes Go.WideShapes Go.ChangeAt Go.RowKit
open Go.ChangeMaps (open_string shut_string)
set_option linter.unusedVariables false      -- a walk need not use every 'w<i>' (that an integer argument fits its kind)

theorem own : ownKnob Try.prog.godebug = none := by kernel_rfl

/-! ### STEP 1: THE WALK: the Go text returns true. 'Grown w w'': the world has at most new blocks (Derived/RowKit3.lean). Part the cases AHEAD of 'go_enter' where a test parts the walk; take each callee by a contract of your own. -/
set_option maxHeartbeats 2000000 in
theorem walk (a0 : ByteArray) (w0 : a0.size ≤ maxLen) (w : World) :
    Calls Try.prog 7 #[.string a0] w fun e w' => e = .returned (.bool true) ∧ Below w.heap.size w w' := by
  by_cases hbig : 1048576 < a0.size
  · have : (1048576 : Int) < (a0.size : Int) := by omega
    go_enter Try.func7, Try.ntmps7
    go_wp2
    go_ret
    exact ⟨rfl, Below.refl _ _⟩
  · have hsm : a0.size ≤ 4000000 := by omega
    have : ¬ (1048576 : Int) < (a0.size : Int) := by omega
    cases hsp : splitOf a0.data.toList with
    | none =>
      have hsp' : Hid (splitOf a0.data.toList = none) := hsp
      clear hsp
      go_enter Try.func7, Try.ntmps7
      go_wp2_with fail
      refine (splitS a0 w hsm).mono ?_
      intro e w1 h1
      obtain ⟨hb1, a1, c1, rfl⟩ := h1.no hsp'.out
      clear h1
      go_wp2_with fail
      refine (splitI a0 w1 hsm).mono ?_
      intro e w2 h2
      obtain ⟨hb2, a2, c2, rfl⟩ := h2.no hsp'.out
      clear h2
      have B2 := hb1.trans (hb2.mono hb1.size)
      go_wp2_with fail
      refine (eqS_same a2 a1 0 c2 c1 [] w2 rfl (by omega) (.inl rfl) (.inl rfl)).mono ?_
      rintro e w3 ⟨rfl, d, rfl⟩
      have B3 := below_drewN B2 d
      go_wp2_with fail
      refine (mark0 a2 c2 _).mono ?_
      rintro e w4 ⟨rfl, rfl⟩
      go_wp2_with fail
      refine (held0 a2 c2 _).mono ?_
      rintro e w5 ⟨rfl, rfl⟩
      go_wp2_with fail
      refine (splitI a0 _ hsm).mono ?_
      intro e w6 h6
      obtain ⟨hb6, a6, c6, rfl⟩ := h6.no hsp'.out
      clear h6
      have B6 := B3.trans (hb6.mono B3.size)
      go_wp2_with fail
      refine (eqS_same a6 a1 0 c6 c1 [] w6 rfl (by omega) (.inl rfl) (.inl rfl)).mono ?_
      rintro e w7 ⟨rfl, d7, rfl⟩
      go_wp2_with fail
      refine (held0 a2 c2 _).mono ?_
      rintro e w8 ⟨rfl, rfl⟩
      go_wp2
      go_ret
      exact ⟨rfl, below_drewN B6 d7⟩
    | some ps =>
      obtain ⟨zs, hzs, hz30⟩ := split_strs hsp
      have hsp' : Hid (splitOf a0.data.toList = some (strs zs)) := hzs
      clear hsp hzs
      obtain ⟨n, hn⟩ : ∃ n, zs.length = n := ⟨_, rfl⟩
      have hn' : Hid (zs.length = n) := hn
      have hn30 : n ≤ 30 := by omega
      clear hz30 hn
      go_enter Try.func7, Try.ntmps7
      go_wp2_with fail
      refine (splitS a0 w hsm).mono ?_
      intro e w1 h1
      obtain ⟨hb1, g1, c1, rfl, hg1, ho1⟩ := h1.yes hsp'.out
      clear h1
      rw [hn'.out] at ho1 ⊢
      go_wp2_with fail
      refine (splitI a0 w1 hsm).mono ?_
      intro e w2 h2
      obtain ⟨hb2, g2, c2, rfl, hg2, ho2⟩ := h2.yes hsp'.out
      clear h2
      rw [hn'.out] at ho2 ⊢
      have B2 := hb1.trans (hb2.mono hb1.size)
      have hg12 := ho1.lt
      have ho12 := ho1.keep hb2
      go_wp2_with fail
      refine (eqS_same _ _ n c2 c1 zs w2 hn'.out (by omega) ho2.rd ho12.rd).mono ?_
      rintro e w3 ⟨rfl, d, rfl⟩
      have B3 := below_drewN B2 d
      have ho23 : OwnS (w2.drewN d) g2 n c2 zs := ho2
      have ho13 : OwnS (w2.drewN d) g1 n c1 zs := ho12
      go_wp2_with fail
      refine (markS_any g2 n c2 zs _ (by omega) ho23).mono ?_
      rintro e w4 ⟨rfl, ho4, hgr4⟩
      have B4 : Below w.heap.size w w4 := B3.grown hgr4 B3.size (by intro k hk; simp at hk; have := hb1.size; omega)
      have ho14 := ho13.kept hgr4 (by omega)
      go_wp2_with fail
      refine (heldS_any g2 n c2 w4 (by omega) ho4).mono ?_
      rintro e w5 ⟨rfl, hb5⟩
      have B5 := B4.trans (hb5.mono B4.size)
      have ho5 := ho4.keep hb5
      have ho15 := ho14.keep hb5
      go_wp2_with fail
      refine (splitI a0 w5 hsm).mono ?_
      intro e w6 h6
      obtain ⟨hb6, g6, c6, rfl, hg6, ho6⟩ := h6.yes hsp'.out
      clear h6
      rw [hn'.out] at ho6 ⊢
      have B6 := B5.trans (hb6.mono B5.size)
      have ho16 := ho15.keep hb6
      have ho56 := ho5.keep hb6
      go_wp2_with fail
      refine (eqS_same _ _ n c6 c1 zs w6 hn'.out (by omega) ho6.rd ho16.rd).mono ?_
      rintro e w7 ⟨rfl, d7, rfl⟩
      have B7 := below_drewN B6 d7
      have ho7 : OwnS (w6.drewN d7) g2 n c2 (marksS n) := ho56
      go_wp2_with fail
      refine (heldS_any g2 n c2 _ (by omega) ho7).mono ?_
      rintro e w8 ⟨rfl, hb8⟩
      go_wp2
      go_ret
      exact ⟨rfl, B7.trans (hb8.mono B7.size)⟩

/-! ### THE ROW's STEP: WRITTEN OUT: LEAVE IT -/
set_option maxRecDepth 100000 in
theorem lifted (os : Os) (started : os.Started) (H : Type) (enc : TypeId × Value → H) :
    ReturnsInHanded {} Try.checked os 7 .any (Rows.fnExactSplitPathSpec.pre6 enc Try.prog Try.f7 Rows.fnExactSplitPathRow.domain false) (Rows.fnExactSplitPathSpec.post enc Try.prog Try.f7 false true false false) := by
  refine returnsInHanded_of_change (C := Try.checked) own started (by kernel_rfl) Try.func7
    (ChangeSpec.witness6 (enc := enc) (C := Try.checked) false ⟨#[], #[.string ByteArray.empty], []⟩ 8 (by kernel_rfl) (by kernel_rfl) (by kernel_rfl) (by kernel_rfl)) ?_
  intro W base args ds gs before hval0 hW hcnd _
  have hval : ∀ (j : Nat) t v, Try.f7.params[j]? = some t → args[j]? = some v → Value.okWide Try.prog W .any base t v := hval0
  have hW' := hW
  obtain ⟨p, q, hA0, hV, rfl, hfz, hnd⟩ := hW
  have hA : DataW.TrodAll enc Try.prog W 0 (fun _ => true) true Try.f7.params.toList args.toList ds p := hA0
  rw [Try.params7] at hA hval
  obtain ⟨v0, vs0, d0, ds0, p0, q0, hargs, rfl, rfl, h0, r0⟩ := trodAll_cons hA
  obtain ⟨rfl, rfl, rfl⟩ := trodAll_nil r0
  obtain rfl : args = #[v0] := by cases args; simp_all
  obtain ⟨rfl, rfl⟩ := trodVars_none hV
  obtain ⟨a0, rfl, rfl, rfl, w0⟩ := open_string Try.underlying9 (hval 0 9 v0 rfl rfl) h0
  clear hA0 hval0
  simp only [List.append_nil] at hW'
  refine (walk a0 w0 W).mono fun e W' ⟨he, bel⟩ => ?_
  subst he
  exact ⟨_, rfl, _, _, _, [], _, [], hW', trodAll_mk1 (shut_bool Try.underlying4 _), (trodAll_cons_mk (shut_string Try.underlying9 w0) trodAll_mk0), rfl, bel.frame _, fun h => by cases h⟩

theorem over : Rows.fnExactSplitPathRow.holds Try.pinned (OpenSpec.ofChange Rows.fnExactSplitPathSpec) :=
  OpenClaim.holds_of_wide 7 Try.f7 rfl rfl rfl rfl rfl rfl rfl ⟨rfl, rfl, rfl, rfl, rfl⟩ rfl rfl rfl rfl rfl (by kernel_rfl) Try.func7 (by kernel_rfl)
    (of_decide_eq_true (by kernel_rfl)) (by unfold Func.isWrapper; first | (rw [if_pos (by decide +kernel)]; kernel_rfl) | (rw [if_neg (by decide +kernel)]; exact ⟨rfl, rfl⟩))
    (fun os started H enc _ => lifted os started H enc)

/-- ████ THE STATEMENT ████ -/
theorem proved : Rows.FnExactSplitPathSaid :=
  over
#print axioms proved
end Go.Proofs.Ytgdloohafkanhaa.fnExactSplitPath
