/-
  Proved: for every inode the law FnExactInodeOk answers true and leaves its argument as it was; no condition.
  The frame is the one that the guide's own program writes for a law over one []byte, turned to this law's parameters.
-/
import Derived.Test.YtbidiicccfkanaaRows
import Derived.Test.YtbidiicccfkanaaSix
import Derived.Test.YtbidiicccfkanaaInoOkI
import Derived.Test.YtbidiicccfkanaaEqIno
import Derived.Test.YtbidiicccfkanaaInoOpen
import Derived.WalkKit
import Derived.ProofKit
import Derived.OpenShut
import Derived.ShutString
import Derived.ChangeOld
import Derived.Below
namespace Go.Proofs.Ytbidiicccfkanaa.fnExactInodeOk
open Go.ChangeShapes Go.WideShapes Go.ChangeAt Go.RowKit
open Go.ChangeMaps (open_string shut_string)
set_option linter.unusedVariables false

theorem own : ownKnob Try.prog.godebug = none := by kernel_rfl
theorem laidOut : laidOutB Try.prog = true := by kernel_rfl

/-! ### STEP 1: THE WALK: the Go text returns true, AND WRITES NOTHING THAT WAS THERE: 'Below w.heap.size w w'' (Derived/Below.lean: '.refl', '.alloc', '.drew', '.setCell' at a new block, '.trans'). Open each 'IsRow' by 'rcases' AHEAD of 'go_enter'; part every test ahead of the walk. -/
set_option maxHeartbeats 1600000 in
theorem walk (D : InoD) (x1 : Option Addr) (c1 : Nat) (x2 : Option Addr) (c2 : Nat) (x3 : Option Addr) (c3 : Nat) (w : World) (hi : InoIn D) (hr : InoRd w D x1 x2 x3) :
    Calls Try.prog 7 #[inoV D x1 c1 x2 c2 x3 c3] w fun e w' => e = .returned (.bool true) ∧ Below w.heap.size w w' := by
  have B0 : Below w.heap.size w (w.alloc (.cells (inoC D x1 c1 x2 c2 x3 c3) 56)) := (Below.refl _ w).alloc (Nat.le_refl _) _
  have z0 := Box.new w 56 D x1 x2 x3 c1 c2 c3
  unfold inoC at B0 z0
  unfold inoV
  · go_enter Try.func7, Try.ntmps7
    go_wp2_with fail
    obtain ⟨W0, hW0⟩ : ∃ W, w.alloc (.cells #[.int .i64 D.ino, .int .i64 D.kind, .int .i64 D.links, .slice x1 D.data.length c1, .slice x2 D.ents.length c2, .slice x3 D.attrs.length c3] 56) = W := ⟨_, rfl⟩
    rw [hW0] at B0 z0 ⊢
    clear hW0
    refine (szInode_any D x1 x2 x3 c1 c2 c3 1048576 W0 (by omega) hi (hr.keep B0)).mono ?_
    rintro e w1 ⟨hsz, b1⟩
    have B1 := B0.trans (b1.mono B0.size)
    have z1 := z0.keep b1
    rcases hsz with rfl | ⟨x, hx, rfl, hsm⟩
    · go_wp2
      go_ret
      exact ⟨rfl, B1⟩
    · have hx0 : ¬ (x : Int) < 0 := by omega
      obtain ⟨q0, q1, q2, q3, q4, q5⟩ := z1.six
      clear B0 z0 b1
      go_wp2_with fail
      refine (toInode_any D x1 x2 x3 c1 c2 c3 w1 hsm.data hsm.ents hsm.attrs (hr.keep B1)).mono ?_
      rintro e w2 ⟨g1, g2, g3, rfl, hg1, hg2, hg3, oA, b2⟩
      have B2 := B1.trans (b2.mono B1.size)
      have z2 := z1.keep b2
      clear q0 q1 q2 q3 q4 q5
      go_wp2_with fail
      refine (inoOkS D _ _ _ _ _ _ w2 hsm oA.rd).mono ?_
      rintro e w3 ⟨rfl, b3⟩
      have B3 := B2.trans (b3.mono B2.size)
      have z3 := z2.keep b3
      obtain ⟨q0, q1, q2, q3, q4, q5⟩ := z3.six
      obtain ⟨A, hA⟩ : ∃ A, inoOk D = A := ⟨_, rfl⟩
      rw [hA]
      go_wp2_with fail
      refine (toInode_any D x1 x2 x3 c1 c2 c3 w3 hsm.data hsm.ents hsm.attrs (hr.keep B3)).mono ?_
      rintro e w4 ⟨h1, h2, h3, rfl, hh1, hh2, hh3, oB, b4⟩
      have B4 := B3.trans (b4.mono B3.size)
      have z4 := z3.keep b4
      clear q0 q1 q2 q3 q4 q5 z1 z2 z3 b2 b3 oA B1 B2 B3
      unfold inoV
      have b5 : Below w4.heap.size w4 (w4.alloc (.cells (inoC D (some ⟨h1, 0, none⟩) D.data.length (some ⟨h2, 0, none⟩) D.ents.length (some ⟨h3, 0, none⟩) D.attrs.length) 37)) := (Below.refl _ w4).alloc (Nat.le_refl _) _
      have y5 := Box.new w4 37 D (some ⟨h1, 0, none⟩) (some ⟨h2, 0, none⟩) (some ⟨h3, 0, none⟩) D.data.length D.ents.length D.attrs.length
      unfold inoC at b5 y5
      go_wp2_with fail
      obtain ⟨W5, hW5⟩ : ∃ W, w4.alloc (.cells #[.int .i64 D.ino, .int .i64 D.kind, .int .i64 D.links, .slice (some ⟨h1, 0, none⟩) D.data.length D.data.length, .slice (some ⟨h2, 0, none⟩) D.ents.length D.ents.length, .slice (some ⟨h3, 0, none⟩) D.attrs.length D.attrs.length] 37) = W := ⟨_, rfl⟩
      rw [hW5] at b5 y5 ⊢
      clear hW5
      have B5 := B4.trans (b5.mono B4.size)
      have z5 := z4.keep b5
      have oB5 := oB.keep b5
      refine (inoOkI D _ _ _ _ _ _ W5 hsm oB5.rd).mono ?_
      rintro e w6 ⟨rfl, b6⟩
      have B6 := B5.trans (b6.mono B5.size)
      have z6 := z5.keep b6
      have y6 := y5.keep b6
      have oB6 := oB5.keep b6
      have r6 := hr.keep B6.drew
      have oB6d := oB6.keep (Below.refl w6.heap.size w6).drew
      have y6d := y6.keep (Below.refl w6.heap.size w6).drew
      rw [hA]
      obtain ⟨q0, q1, q2, q3, q4, q5⟩ := z6.six
      obtain ⟨p0, p1, p2, p3, p4, p5⟩ := y6.six
      have hsz6 := B6.size
      clear z4 z5 y5 oB oB5 b4 b5 b6 B4 B5
      obtain ⟨G, hG⟩ : ∃ G, w4.heap.size = G := ⟨_, rfl⟩
      rw [hG] at y6d y6 p0 p1 p2 p3 p4 p5 ⊢
      go_wp2
      go_region_with (first
        | (go_at_call 37; refine (toInode_any D x1 x2 x3 c1 c2 c3 _ hsm.data hsm.ents hsm.attrs r6).mono ?_; rintro e w7 ⟨k1, k2, k3, rfl, hk1, hk2, hk3, oC, b7⟩; unfold inoV; have oB7 := oB6d.keep b7; obtain ⟨s0, s1, s2, s3, s4, s5⟩ := (y6d.keep b7).six)
        | (go_at_call 38; refine (eqInode_same D _ _ _ _ _ _ _ _ _ _ _ _ _ hsm.data hsm.ents hsm.attrs oB7.rd oC.rd).mono ?_; rintro e w8 ⟨rfl, b8⟩))
      all_goals go_wp2
      all_goals go_ret
      all_goals exact ⟨rfl, B6.drew.trans ((b7.trans (b8.mono b7.size)).mono hsz6)⟩

/-! ### THE ROW's STEP: WRITTEN OUT: LEAVE IT -/
set_option maxRecDepth 100000 in
theorem lifted (os : Os) (started : os.Started) (H : Type) (enc : TypeId × Value → H) :
    ReturnsInHanded {} Try.checked os 7 .any (Rows.fnExactInodeOkSpec.pre6 enc Try.prog Try.f7 Rows.fnExactInodeOkRow.domain false) (Rows.fnExactInodeOkSpec.post enc Try.prog Try.f7 false true false false) := by
  refine returnsInHanded_of_change (C := Try.checked) own started (by kernel_rfl) Try.func7
    (ChangeSpec.witness6 (enc := enc) (C := Try.checked) false ⟨#[], #[.agg #[.int .i64 0, .int .i64 0, .int .i64 0, .slice none 0 0, .slice none 0 0, .slice none 0 0]], []⟩ 8 (by kernel_rfl) (by kernel_rfl) (by kernel_rfl) (by kernel_rfl)) ?_
  intro W base args ds gs before hval0 hW hcnd _
  have hval : ∀ (j : Nat) t v, Try.f7.params[j]? = some t → args[j]? = some v → Value.okWide Try.prog W .any base t v := hval0
  have hW' := hW
  obtain ⟨p, q, hA0, hV, rfl, hfz, hnd⟩ := hW
  have hA : DataW.TrodAll enc Try.prog W 0 (fun _ => true) true Try.f7.params.toList args.toList ds p := hA0
  rw [Try.params7] at hA hval
  obtain ⟨v0, vs0, d0, ds0, p0, q0, hargs, rfl, rfl, h0, r0⟩ := trodAll_cons hA
  obtain ⟨rfl, rfl, rfl⟩ := trodAll_nil r0
  obtain rfl : args = #[v0] := by cases args; simp_all
  obtain ⟨rfl, rfl⟩ := trodVars_none hV
  have k0 := h0
  have lt0 : ∀ x ∈ p0, x.block < W.heap.size := by obtain ⟨m, hm⟩ := k0; exact DataW.trod_lt m _ _ _ hm
  obtain ⟨D0, x01, c01, x02, c02, x03, c03, rfl, i0, w0⟩ := open_inode (hval 0 56 v0 rfl rfl) h0
  clear hA0 hval0
  refine (walk D0 x01 c01 x02 c02 x03 c03 W i0 w0).mono fun e W' ⟨he, bel⟩ => ?_
  subst he
  exact ⟨_, rfl, _, _, _, [], _, [], hW', trodAll_mk1 (shut_bool Try.underlying4 _), (trodAll_cons_mk (Below.trod laidOut (by kernel_rfl) (of_decide_eq_true (by kernel_rfl)) k0 bel lt0) trodAll_mk0), rfl, bel.frame _, fun h => by cases h⟩

theorem over : Rows.fnExactInodeOkRow.holds Try.pinned (OpenSpec.ofChange Rows.fnExactInodeOkSpec) :=
  OpenClaim.holds_of_wide 7 Try.f7 rfl rfl rfl rfl rfl rfl rfl ⟨rfl, rfl, rfl, rfl, rfl⟩ rfl rfl rfl rfl rfl (by kernel_rfl) Try.func7 (by kernel_rfl)
    (of_decide_eq_true (by kernel_rfl)) (by unfold Func.isWrapper; first | (rw [if_pos (by decide +kernel)]; kernel_rfl) | (rw [if_neg (by decide +kernel)]; exact ⟨rfl, rfl⟩))
    (fun os started H enc _ => lifted os started H enc)

/-- ████ THE STATEMENT ████ -/
theorem proved : Rows.FnExactInodeOkSaid := over
#print axioms proved
end Go.Proofs.Ytbidiicccfkanaa.fnExactInodeOk
