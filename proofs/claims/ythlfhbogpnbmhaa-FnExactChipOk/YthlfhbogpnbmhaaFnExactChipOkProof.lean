/-
  At every chip ChipOk answers as its model, and writes into no argument.
  The frame is the one that the guide's own program writes for a law over one []byte, turned to this law's parameters.
-/
import Derived.Test.YthlfhbogpnbmhaaRows
import Derived.Test.YthlfhbogpnbmhaaChOpenL
import Derived.Test.YthlfhbogpnbmhaaSzChL
import Derived.Test.YthlfhbogpnbmhaaToChL
import Derived.Test.YthlfhbogpnbmhaaChOkCL
import Derived.WalkKit
import Derived.ProofKit
import Derived.OpenShut
import Derived.ShutString
import Derived.ChangeOld
import Derived.Below
namespace Go.Proofs.Ythlfhbogpnbmhaa.fnExactChipOk
open Go.ChangeShapes Go.WideShapes Go.ChangeAt Go.RowKit
open Go.ChangeMaps (open_string shut_string)
set_option linter.unusedVariables false

theorem own : ownKnob Try.prog.godebug = none := by kernel_rfl
theorem laidOut : laidOutB Try.prog = true := by kernel_rfl

/-! ### STEP 1: THE WALK: the Go text returns true, AND WRITES NOTHING THAT WAS THERE: 'Below w.heap.size w w'' (Derived/Below.lean: '.refl', '.alloc', '.drew', '.setCell' at a new block, '.trans'). Open each 'IsRow' by 'rcases' AHEAD of 'go_enter'; part every test ahead of the walk. -/
set_option maxRecDepth 100000 in
set_option maxHeartbeats 8000000 in
theorem walk (a : Option Addr) (cap : Nat) (bs : List BkR) (w : World) (hm : bs.length ≤ maxLen) (hi : ∀ r ∈ bs, BkIn r) (hr : RdBs w a bs) :
    Calls Try.prog 4 #[.agg #[.slice a bs.length cap]] w fun e w' => e = .returned (.bool true) ∧ Below w.heap.size w w' := by
  obtain ⟨n, hn⟩ : ∃ n, bs.length = n := ⟨_, rfl⟩
  rw [hn] at hm ⊢
  have B0 : Below w.heap.size w (w.alloc (.cells #[.slice a n cap] 31)) := (Below.refl _ w).alloc (Nat.le_refl _) _
  have z0 := Blk.new w 31 #[.slice a n cap]
  go_enter Try.func4, Try.ntmps4
  go_wp2_with fail
  obtain ⟨W0, hW0⟩ : ∃ W, w.alloc (.cells #[.slice a n cap] 31) = W := ⟨_, rfl⟩
  rw [hW0] at B0 z0 ⊢
  clear hW0
  refine (szChip_w a n cap 1048576 bs W0 hn hm (by omega) hi (hr.keep B0)).mono ?_
  rintro e w1 ⟨hsz, b1⟩
  have B1 := B0.trans (b1.mono B0.size)
  have z1 := z0.keep b1
  rcases hsz with rfl | ⟨x, hx, rfl, _⟩
  · go_wp2
    go_ret
    exact ⟨rfl, B1⟩
  have hx0 : ¬ (x : Int) < 0 := by omega
  have htot : Hid (totB (bs.map BkR.D) ≤ 1048576) := by show _ ≤ _; omega
  have HN : Hid ((bs.map BkR.D).length = n) := by show _ = _; simp [hn]
  have CA : Hid (∀ (W : World), RdBs W a bs → _) := fun (W : World) (h : RdBs W a bs) => toChip_any a n cap bs W hn htot.out h
  have cS : ∀ (W : World) (B g : Nat) (ts : List BkR), NewBs W B (.slice (some ⟨g, 0, none⟩) n n) (bs.map BkR.D) ts → Calls Try.prog 15 #[.agg #[.slice (some ⟨g, 0, none⟩) n n]] W fun e w' => e = .returned (.bool (chipOkB (bs.map BkR.D))) ∧ Below W.heap.size W w' := fun W B g ts h => by
    have := chipOkS (some ⟨g, 0, none⟩) n n ts W ⟨by rw [h.len, HN.out], by rw [h.D]; exact htot.out, h.rd⟩
    rw [h.D] at this
    exact this
  have cI : ∀ (W : World) (B g : Nat) (ts : List BkR), NewBs W B (.slice (some ⟨g, 0, none⟩) n n) (bs.map BkR.D) ts → Calls Try.prog 17 #[.agg #[.slice (some ⟨g, 0, none⟩) n n]] W fun e w' => e = .returned (.bool (chipOkB (bs.map BkR.D))) ∧ Below W.heap.size W w' := fun W B g ts h => by
    have := chipOkI (some ⟨g, 0, none⟩) n n ts W ⟨by rw [h.len, HN.out], by rw [h.D]; exact htot.out, h.rd⟩
    rw [h.D] at this
    exact this
  generalize chipOkB (bs.map BkR.D) = R at cS cI
  have CS : Hid _ := cS
  have CI : Hid _ := cI
  have HRA : Hid (RdBs w a bs) := hr
  clear cS cI hr hn hi hm B0 z0 b1
  have q0 := z1.cell 0
  simp at q0
  obtain ⟨G0, hG0⟩ : ∃ G, w.heap.size = G := ⟨_, rfl⟩
  rw [hG0] at z1 q0 ⊢
  go_wp2_with fail
  refine (CA.out w1 (RdBs.keep HRA.out B1)).mono ?_
  rintro e w2 ⟨gA, tA, rfl, qA, b2⟩
  have B2 := B1.trans (b2.mono B1.size)
  have z2 := z1.keep b2
  clear q0 z1 b2
  go_wp2_with fail
  refine (CS.out w2 _ gA tA qA).mono ?_
  rintro e w3 ⟨rfl, b3⟩
  have B3 := B2.trans (b3.mono B2.size)
  have z3 := z2.keep b3
  clear qA z2 b3
  have q0 := z3.cell 0
  simp at q0
  go_wp2_with fail
  refine (CA.out w3 (RdBs.keep HRA.out B3)).mono ?_
  rintro e w4 ⟨gB, tB, rfl, qB, b4⟩
  have B4 := B3.trans (b4.mono B3.size)
  have z4 := z3.keep b4
  have b5 : Below w4.heap.size w4 (w4.alloc (.cells #[.slice (some ⟨gB, 0, none⟩) n n] 24)) := (Below.refl _ w4).alloc (Nat.le_refl _) _
  have m5 := Blk.new w4 24 #[.slice (some ⟨gB, 0, none⟩) n n]
  clear q0 z3 b4
  go_wp2_with fail
  obtain ⟨W5, hW5⟩ : ∃ W, w4.alloc (.cells #[.slice (some ⟨gB, 0, none⟩) n n] 24) = W := ⟨_, rfl⟩
  rw [hW5] at b5 m5 ⊢
  clear hW5
  obtain ⟨G4, hG4⟩ : ∃ G, w4.heap.size = G := ⟨_, rfl⟩
  rw [hG4] at m5 ⊢
  have B5 := B4.trans (b5.mono B4.size)
  have z5 := z4.keep b5
  have qB5 := qB.keep b5
  clear qB z4 b5
  refine (CI.out W5 _ gB tB qB5).mono ?_
  rintro e w6 ⟨rfl, b6⟩
  have B6 := B5.trans (b6.mono B5.size)
  have z6 := z5.keep b6
  have m6 := m5.keep b6
  have qB6 := qB5.keep b6
  clear qB5 z5 m5 b6
  have q0 := z6.cell 0
  have p0 := m6.cell 0
  simp at q0 p0
  have r6 := RdBs.keep HRA.out B6.drew
  have qB6d := qB6.keep (Below.refl w6.heap.size w6).drew
  have m6d := m6.keep (Below.refl w6.heap.size w6).drew
  have hbs6 := B6.size
  have hRR : (R != R) = false := by simp
  have hRS : (R == R) = true := by simp
  go_wp2
  go_region_with (first
    | (go_at_call 16; (with_reducible refine (CA.out _ r6).mono ?_); rintro e wA ⟨gC, tC, rfl, qC, b9⟩; have qAA := qB6d.keep b9; have t0 := (m6d.keep b9).cell 0; simp at t0)
    | (go_at_call 11; refine (eqNew HN.out (Nat.le_trans htot.out (by omega)) qAA qC).mono ?_; rintro e wB ⟨rfl, b10⟩))
  all_goals go_wp2
  all_goals go_ret
  all_goals exact ⟨rfl, B6.drew.trans ((b9.trans (b10.mono b9.size)).mono hbs6)⟩

/-! ### THE ROW's STEP: WRITTEN OUT: LEAVE IT -/
set_option maxRecDepth 100000 in
theorem lifted (os : Os) (started : os.Started) (H : Type) (enc : TypeId × Value → H) :
    ReturnsInHanded {} Try.checked os 4 .any (Rows.fnExactChipOkSpec.pre6 enc Try.prog Try.f4 Rows.fnExactChipOkRow.domain false) (Rows.fnExactChipOkSpec.post enc Try.prog Try.f4 false true false false) := by
  refine returnsInHanded_of_change (C := Try.checked) own started (by kernel_rfl) Try.func4
    (ChangeSpec.witness6 (enc := enc) (C := Try.checked) false ⟨#[], #[.agg #[.slice none 0 0]], []⟩ 8 (by kernel_rfl) (by kernel_rfl) (by kernel_rfl) (by kernel_rfl)) ?_
  intro W base args ds gs before hval0 hW hcnd _
  have hval : ∀ (j : Nat) t v, Try.f4.params[j]? = some t → args[j]? = some v → Value.okWide Try.prog W .any base t v := hval0
  have hW' := hW
  obtain ⟨p, q, hA0, hV, rfl, hfz, hnd⟩ := hW
  have hA : DataW.TrodAll enc Try.prog W 0 (fun _ => true) true Try.f4.params.toList args.toList ds p := hA0
  rw [Try.params4] at hA hval
  obtain ⟨v0, vs0, d0, ds0, p0, q0, hargs, rfl, rfl, h0, r0⟩ := trodAll_cons hA
  obtain ⟨rfl, rfl, rfl⟩ := trodAll_nil r0
  obtain rfl : args = #[v0] := by cases args; simp_all
  obtain ⟨rfl, rfl⟩ := trodVars_none hV
  have k0 := h0
  have lt0 : ∀ x ∈ p0, x.block < W.heap.size := by obtain ⟨m, hm⟩ := k0; exact DataW.trod_lt m _ _ _ hm
  obtain ⟨x0, c0, rs0, rfl, m0, i0, w0⟩ := open_chip (hval 0 31 v0 rfl rfl) h0
  clear hA0 hval0
  refine (walk x0 c0 rs0 W m0 i0 w0).mono fun e W' ⟨he, bel⟩ => ?_
  subst he
  exact ⟨_, rfl, _, _, _, [], _, [], hW', trodAll_mk1 (shut_bool Try.underlying4 _), (trodAll_cons_mk (Below.trod laidOut (by kernel_rfl) (of_decide_eq_true (by kernel_rfl)) k0 bel lt0) trodAll_mk0), rfl, bel.frame _, fun h => by cases h⟩

theorem over : Rows.fnExactChipOkRow.holds Try.pinned (OpenSpec.ofChange Rows.fnExactChipOkSpec) :=
  OpenClaim.holds_of_wide 4 Try.f4 rfl rfl rfl rfl rfl rfl rfl ⟨rfl, rfl, rfl, rfl, rfl⟩ rfl rfl rfl rfl rfl (by kernel_rfl) Try.func4 (by kernel_rfl)
    (of_decide_eq_true (by kernel_rfl)) (by unfold Func.isWrapper; first | (rw [if_pos (by decide +kernel)]; kernel_rfl) | (rw [if_neg (by decide +kernel)]; exact ⟨rfl, rfl⟩))
    (fun os started H enc _ => lifted os started H enc)

/-- ████ THE STATEMENT ████ -/
theorem proved : Rows.FnExactChipOkSaid := over
#print axioms proved
end Go.Proofs.Ythlfhbogpnbmhaa.fnExactChipOk
