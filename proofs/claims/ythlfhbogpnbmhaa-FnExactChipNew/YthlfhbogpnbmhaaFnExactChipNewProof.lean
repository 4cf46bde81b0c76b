/-
  At every number ChipNew answers as its model, and its answer owns its memory.
  The frame is the one that the guide's own program writes for a law over one []byte, turned to this law's parameters.
-/
import Derived.Test.YthlfhbogpnbmhaaRows
import Derived.Test.YthlfhbogpnbmhaaToChN
import Derived.Test.YthlfhbogpnbmhaaChNwN
import Derived.Test.YthlfhbogpnbmhaaChNiN
import Derived.Test.YthlfhbogpnbmhaaChMbN
import Derived.WalkKit
import Derived.ProofKit
import Derived.OpenShut
import Derived.ShutString
import Derived.ChangeOld
import Derived.Below
namespace Go.Proofs.Ythlfhbogpnbmhaa.fnExactChipNew
open Go.ChangeShapes Go.WideShapes Go.ChangeAt Go.RowKit
open Go.ChangeMaps (open_string shut_string)
set_option linter.unusedVariables false

theorem own : ownKnob Try.prog.godebug = none := by kernel_rfl
theorem laidOut : laidOutB Try.prog = true := by kernel_rfl

/-! ### STEP 1: THE WALK: the Go text returns true, AND WRITES NOTHING THAT WAS THERE: 'Below w.heap.size w w'' (Derived/Below.lean: '.refl', '.alloc', '.drew', '.setCell' at a new block, '.trans'). Open each 'IsRow' by 'rcases' AHEAD of 'go_enter'; part every test ahead of the walk. -/
set_option maxRecDepth 100000 in
set_option maxHeartbeats 8000000 in
theorem walk (x0 : Int) (w : World) (hwx : (Lit.int .i64 x0).wf = true) :
    Calls Try.prog 3 #[.int .i64 x0] w fun e w' => e = .returned (.bool true) ∧ Below w.heap.size w w' := by
  clear hwx
  have hnl : (newD x0).length ≤ 24 := by
    unfold newD
    split
    · simp; omega
    · simp
  have htt : totB (newD x0) ≤ 1048576 := by
    unfold newD
    split
    · have : totB (List.replicate x0.toNat bkN) = x0.toNat * 9 := by
        simp only [totB, List.map_replicate, List.sum_replicate_nat]
        rfl
      omega
    · simp [totB]
  have cI0 := fun W => chipNewI x0 W
  have cS0 := fun W => chipNewS x0 W
  generalize newD x0 = ds at cI0 cS0 hnl htt
  obtain ⟨n, hn⟩ : ∃ n, ds.length = n := ⟨_, rfl⟩
  have cI : ∀ W : World, Calls Try.prog 10 #[.int .i64 x0] W fun e w' => ∃ a c qs, e = .returned (.agg #[.slice a n c]) ∧ NewBs w' W.heap.size (.slice a n c) ds qs ∧ Below W.heap.size W w' := fun W => (cI0 W).mono fun e w' h => by
    obtain ⟨a, m, c, qs, e1, e2, e3, e4⟩ := h
    have : m = n := by rw [← e3, e2.len, hn]
    subst this
    exact ⟨a, c, qs, e1, e2, e4⟩
  have cS : ∀ W : World, Calls Try.prog 9 #[.int .i64 x0] W fun e w' => ∃ a c qs, e = .returned (.agg #[.slice a n c]) ∧ NewBs w' W.heap.size (.slice a n c) ds qs ∧ Below W.heap.size W w' := fun W => (cS0 W).mono fun e w' h => by
    obtain ⟨a, m, c, qs, e1, e2, e3, e4⟩ := h
    have : m = n := by rw [← e3, e2.len, hn]
    subst this
    exact ⟨a, c, qs, e1, e2, e4⟩
  have hcb : Hid (∀ ts : List BkR, ts.map BkR.D = ds → 1 + cBs ts ≤ 9999990) := fun ts h => by
    have := cBs_le ts
    rw [h] at this
    omega
  have CI : Hid _ := cI
  have CS : Hid _ := cS
  have HN : Hid (ds.length = n) := hn
  have HT : Hid (totB ds ≤ 4000000) := by show _ ≤ _; omega
  clear cI0 cS0 cI cS hn hnl htt
  go_enter Try.func3, Try.ntmps3
  go_wp2_with fail
  refine (CS.out w).mono ?_
  rintro e w1 ⟨aS, cS, tS, rfl, qS, b1⟩
  have b2 : Below w1.heap.size w1 (w1.alloc (.cells #[.slice aS n cS] 24)) := (Below.refl _ w1).alloc (Nat.le_refl _) _
  have zS := Blk.new w1 24 #[.slice aS n cS]
  go_wp2_with fail
  obtain ⟨W2, hW2⟩ : ∃ W, w1.alloc (.cells #[.slice aS n cS] 24) = W := ⟨_, rfl⟩
  rw [hW2] at b2 zS ⊢
  clear hW2
  obtain ⟨GS, hGS⟩ : ∃ G, w1.heap.size = G := ⟨_, rfl⟩
  rw [hGS] at zS ⊢
  have hGSw : w.heap.size ≤ GS := by rw [← hGS]; exact b1.size
  have qS2 := qS.keep b2
  have B2 := b1.trans (b2.mono b1.size)
  clear qS b1 b2 hGS
  refine (CI.out W2).mono ?_
  rintro e w3 ⟨aI, cI, tI, rfl, qI, b3⟩
  have qS3 := qS2.keep b3
  have zS3 := zS.keep b3
  have B3 := B2.trans (b3.mono B2.size)
  have b4 : Below w3.heap.size w3 (w3.alloc (.cells #[.slice aI n cI] 24)) := (Below.refl _ w3).alloc (Nat.le_refl _) _
  have zI := Blk.new w3 24 #[.slice aI n cI]
  have hSl : Hid (∀ g ∈ fpBs (.slice aS n cS) tS, g < W2.heap.size) := fun g hg => qS2.own.lt g hg
  have hGS2 : GS < W2.heap.size := zS.lt
  have s0 := (zS3.keep b4).cell 0
  simp at s0
  clear qS2 zS b3
  go_wp2_with fail
  obtain ⟨W4, hW4⟩ : ∃ W, w3.alloc (.cells #[.slice aI n cI] 24) = W := ⟨_, rfl⟩
  rw [hW4] at b4 zI s0 ⊢
  clear hW4 s0
  obtain ⟨GI, hGI⟩ : ∃ G, w3.heap.size = G := ⟨_, rfl⟩
  have hIl : Hid (∀ g ∈ fpBs (.slice aI n cI) tI, W2.heap.size ≤ g ∧ g < GI) := fun g hg => ⟨qI.new g hg, by rw [← hGI]; exact qI.own.lt g hg⟩
  rw [hGI] at zI ⊢
  have hGIw : w.heap.size ≤ GI := by rw [← hGI]; exact B3.size
  have qS4 := qS3.keep b4
  have qI4 := qI.keep b4
  have zS4 := zS3.keep b4
  have B4 := B3.trans (b4.mono B3.size)
  clear qS3 qI zS3 b4 B3 hGI
  refine (eqNew HN.out HT.out qI4 qS4).mono ?_
  rintro e w5 ⟨rfl, b5⟩
  have qS5 := qS4.keep b5
  have qI5 := qI4.keep b5
  have zS5 := zS4.keep b5
  have zI5 := zI.keep b5
  have B5 := B4.trans (b5.mono B4.size)
  clear qS4 qI4 zS4 zI B4 b5
  have i0 := zI5.cell 0
  simp at i0
  have hcbo := hcb.out tI qI5.D
  go_wp2_with fail
  refine (markCh_any (.slice aI n cI) 1 tI w5 (Nat.le_refl _) hcbo qI5.own qI5.nd).mono ?_
  rintro e w6 ⟨rfl, oI6, sv6⟩
  have qS6 := qS5.svs sv6 (fun g hg hf => by have := hSl.out g hg; have := hIl.out g hf; omega)
  have zS6 := Blk.svs zS5 sv6 (fun hf => by have := hIl.out GS hf; omega)
  have zI6 := Blk.svs zI5 sv6 (fun hf => by have := hIl.out GI hf; omega)
  have hWw : w.heap.size ≤ W2.heap.size := B2.size
  have B6 : Below w.heap.size w w6 := Below.svs B5 sv6 (fun g hg => by have := hIl.out g hg; omega) (Nat.le_refl _)
  obtain ⟨Q, hQ⟩ : ∃ Q, 1 + cBs tI = Q := ⟨_, rfl⟩
  have CH : Hid (∀ W : World, OwnBs W (.slice aI n cI) (mkBs 1 tI) → Calls Try.prog 13 #[.agg #[.slice aI n cI], .int .i64 1] W fun e w' => e = .returned (.int .i64 (Q : Int)) ∧ Below W.heap.size W w') := fun W h => by
    have := heldCh_any (.slice aI n cI) 1 tI W (Nat.le_refl _) hcbo h
    rw [hQ] at this
    exact this
  rw [hQ]
  have hQ0 : ¬ (Q : Int) < 0 := by omega
  have hQQ : ((Q : Int) != (Q : Int)) = false := by simp
  clear hQ hcbo sv6 qS5 qI5 zS5 zI5 B5 i0
  have i0 := zI6.cell 0
  simp at i0
  go_wp2_with fail
  refine (CH.out w6 oI6).mono ?_
  rintro e w7 ⟨rfl, b7⟩
  have qS7 := qS6.keep b7
  have oI7 := oI6.keep b7
  have zS7 := zS6.keep b7
  have zI7 := zI6.keep b7
  have B7 := B6.trans (b7.mono B6.size)
  clear qS6 oI6 zS6 zI6 B6 b7 i0
  go_wp2_with fail
  refine (CI.out w7).mono ?_
  rintro e w8 ⟨aJ, cJ, tJ, rfl, qJ, b8⟩
  have qS8 := qS7.keep b8
  have oI8 := oI7.keep b8
  have zS8 := zS7.keep b8
  have zI8 := zI7.keep b8
  have B8 := B7.trans (b8.mono B7.size)
  have b9 : Below w8.heap.size w8 (w8.alloc (.cells #[.slice aJ n cJ] 24)) := (Below.refl _ w8).alloc (Nat.le_refl _) _
  have s0 := (zS8.keep b9).cell 0
  simp at s0
  clear qS7 oI7 zS7 zI7 B7 b8
  go_wp2_with fail
  obtain ⟨W9, hW9⟩ : ∃ W, w8.alloc (.cells #[.slice aJ n cJ] 24) = W := ⟨_, rfl⟩
  rw [hW9] at b9 s0 ⊢
  clear hW9 s0
  have qS9 := qS8.keep b9
  have qJ9 := qJ.keep b9
  have oI9 := oI8.keep b9
  have zI9 := zI8.keep b9
  have B9 := B8.trans (b9.mono B8.size)
  clear qS8 qJ oI8 zS8 zI8 B8 b9
  refine (eqNew HN.out HT.out qJ9 qS9).mono ?_
  rintro e w10 ⟨rfl, b10⟩
  have oI10 := oI9.keep b10
  have zI10 := zI9.keep b10
  have B10 := B9.trans (b10.mono B9.size)
  clear qS9 qJ9 oI9 zI9 B9 b10
  have i0 := zI10.cell 0
  simp at i0
  go_wp2_with fail
  refine (CH.out w10 oI10).mono ?_
  rintro e w11 ⟨rfl, b11⟩
  have B11 := B10.trans (b11.mono B10.size)
  clear oI10 zI10 B10 b11 i0
  go_wp2
  go_ret
  exact ⟨rfl, B11⟩

/-! ### THE ROW's STEP: WRITTEN OUT: LEAVE IT -/
set_option maxRecDepth 100000 in
theorem lifted (os : Os) (started : os.Started) (H : Type) (enc : TypeId × Value → H) :
    ReturnsInHanded {} Try.checked os 3 .any (Rows.fnExactChipNewSpec.pre6 enc Try.prog Try.f3 Rows.fnExactChipNewRow.domain false) (Rows.fnExactChipNewSpec.post enc Try.prog Try.f3 false true false false) := by
  refine returnsInHanded_of_change (C := Try.checked) own started (by kernel_rfl) Try.func3
    (ChangeSpec.witness6 (enc := enc) (C := Try.checked) false ⟨#[], #[.int .i64 0], []⟩ 8 (by kernel_rfl) (by kernel_rfl) (by kernel_rfl) (by kernel_rfl)) ?_
  intro W base args ds gs before hval0 hW hcnd _
  have hval : ∀ (j : Nat) t v, Try.f3.params[j]? = some t → args[j]? = some v → Value.okWide Try.prog W .any base t v := hval0
  have hW' := hW
  obtain ⟨p, q, hA0, hV, rfl, hfz, hnd⟩ := hW
  have hA : DataW.TrodAll enc Try.prog W 0 (fun _ => true) true Try.f3.params.toList args.toList ds p := hA0
  rw [Try.params3] at hA hval
  obtain ⟨v0, vs0, d0, ds0, p0, q0, hargs, rfl, rfl, h0, r0⟩ := trodAll_cons hA
  obtain ⟨rfl, rfl, rfl⟩ := trodAll_nil r0
  obtain rfl : args = #[v0] := by cases args; simp_all
  obtain ⟨rfl, rfl⟩ := trodVars_none hV
  obtain ⟨s0, rfl, rfl, rfl, w0⟩ := open_int Try.underlying3 (hval 0 3 v0 rfl rfl) h0
  clear hA0 hval0
  refine (walk s0 W w0).mono fun e W' ⟨he, bel⟩ => ?_
  subst he
  exact ⟨_, rfl, _, _, _, [], _, [], hW', trodAll_mk1 (shut_bool Try.underlying4 _), (trodAll_cons_mk (shut_int Try.underlying3 w0) trodAll_mk0), rfl, bel.frame _, fun h => by cases h⟩

theorem over : Rows.fnExactChipNewRow.holds Try.pinned (OpenSpec.ofChange Rows.fnExactChipNewSpec) :=
  OpenClaim.holds_of_wide 3 Try.f3 rfl rfl rfl rfl rfl rfl rfl ⟨rfl, rfl, rfl, rfl, rfl⟩ rfl rfl rfl rfl rfl (by kernel_rfl) Try.func3 (by kernel_rfl)
    (of_decide_eq_true (by kernel_rfl)) (by unfold Func.isWrapper; first | (rw [if_pos (by decide +kernel)]; kernel_rfl) | (rw [if_neg (by decide +kernel)]; exact ⟨rfl, rfl⟩))
    (fun os started H enc _ => lifted os started H enc)

/-- ████ THE STATEMENT ████ -/
theorem proved : Rows.FnExactChipNewSaid := over
#print axioms proved
end Go.Proofs.Ythlfhbogpnbmhaa.fnExactChipNew
