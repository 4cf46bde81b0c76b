/-
  At every chip and numbers ReadPage answers as its model, writes into no argument, and its answer owns its memory.
  The frame is the one that the guide's own program writes for a law over one []byte, turned to this law's parameters.
-/
import Derived.Test.YthlfhbogpnbmhaaRows
import Derived.Test.YthlfhbogpnbmhaaChOpenL
import Derived.Test.YthlfhbogpnbmhaaSzChL
import Derived.Test.YthlfhbogpnbmhaaToChL
import Derived.Test.YthlfhbogpnbmhaaChRdL
import Derived.Test.YthlfhbogpnbmhaaChMbL
import Derived.Test.YthlfhbogpnbmhaaRowXL
import Derived.WalkKit
import Derived.ProofKit
import Derived.OpenShut
import Derived.ShutString
import Derived.ChangeOld
import Derived.Below
namespace Go.Proofs.Ythlfhbogpnbmhaa.fnExactReadPage
open Go.ChangeShapes Go.WideShapes Go.ChangeAt Go.RowKit
open Go.ChangeMaps (open_string shut_string)
set_option linter.unusedVariables false

theorem own : ownKnob Try.prog.godebug = none := by kernel_rfl
theorem laidOut : laidOutB Try.prog = true := by kernel_rfl

/-! ### STEP 1: THE WALK: the Go text returns true, AND WRITES NOTHING THAT WAS THERE: 'Below w.heap.size w w'' (Derived/Below.lean: '.refl', '.alloc', '.drew', '.setCell' at a new block, '.trans'). Open each 'IsRow' by 'rcases' AHEAD of 'go_enter'; part every test ahead of the walk. -/
set_option maxRecDepth 100000 in
set_option maxHeartbeats 8000000 in
theorem walk (a : Option Addr) (cap : Nat) (bs : List BkR) (x0 y0 : Int) (w : World) (hm : bs.length ≤ maxLen) (hi : ∀ r ∈ bs, BkIn r) (hr : RdBs w a bs) (hwx : (Lit.int .i64 x0).wf = true) (hwy : (Lit.int .i64 y0).wf = true) :
    Calls Try.prog 6 #[.agg #[.slice a bs.length cap], .int .i64 x0, .int .i64 y0] w fun e w' => e = .returned (.bool true) ∧ Below w.heap.size w w' := by
  obtain ⟨n, hn⟩ : ∃ n, bs.length = n := ⟨_, rfl⟩
  rw [hn] at hm ⊢
  have B0 : Below w.heap.size w (w.alloc (.cells #[.slice a n cap] 31)) := (Below.refl _ w).alloc (Nat.le_refl _) _
  have z0 := Blk.new w 31 #[.slice a n cap]
  go_enter Try.func6, Try.ntmps6
  go_wp2_with fail
  obtain ⟨W0, hW0⟩ : ∃ W, w.alloc (.cells #[.slice a n cap] 31) = W := ⟨_, rfl⟩
  rw [hW0] at B0 z0 ⊢
  clear hW0
  refine (szChip_w a n cap 1048576 bs W0 hn hm (by omega) hi (hr.keep B0)).mono ?_
  rintro e w1 ⟨hsz, b1⟩
  have B1 := B0.trans (b1.mono B0.size)
  have z1 := z0.keep b1
  rcases hsz with rfl | ⟨x, hx, rfl, _⟩
  · go_wp2
    go_ret
    exact ⟨rfl, B1⟩
  have hx0 : ¬ (x : Int) < 0 := by omega
  have htot : Hid (totB (bs.map BkR.D) ≤ 1048576) := by show _ ≤ _; omega
  have HN : Hid ((bs.map BkR.D).length = n) := by show _ = _; simp [hn]
  have CA : Hid (∀ (W : World), RdBs W a bs → _) := fun (W : World) (h : RdBs W a bs) => toChip_any a n cap bs W hn htot.out h
  have cS : ∀ (W : World) (B g : Nat) (ts : List BkR), NewBs W B (.slice (some ⟨g, 0, none⟩) n n) (bs.map BkR.D) ts → Calls Try.prog 20 #[.agg #[.slice (some ⟨g, 0, none⟩) n n], .int .i64 x0, .int .i64 y0] W (RdA W (readD (bs.map BkR.D) x0 y0)) := fun W B g ts h => by
    have := readS (some ⟨g, 0, none⟩) n n ts x0 y0 W ⟨by rw [h.len, HN.out], by rw [h.D]; exact htot.out, h.rd⟩
    rw [h.D] at this
    exact this
  have cI : ∀ (W : World) (B g : Nat) (ts : List BkR), NewBs W B (.slice (some ⟨g, 0, none⟩) n n) (bs.map BkR.D) ts → Calls Try.prog 21 #[.agg #[.slice (some ⟨g, 0, none⟩) n n], .int .i64 x0, .int .i64 y0] W (RdA W (readD (bs.map BkR.D) x0 y0)) := fun W B g ts h => by
    have := readI (some ⟨g, 0, none⟩) n n ts x0 y0 W ⟨by rw [h.len, HN.out], by rw [h.D]; exact htot.out, h.rd⟩
    rw [h.D] at this
    exact this
  have hzl : ((readD (bs.map BkR.D) x0 y0).getD []).length ≤ 1048576 := by
    have hto := htot.out
    unfold readD
    split
    · cases hb : (bs.map BkR.D)[x0.toNat]? with
      | none => simp
      | some b =>
        dsimp only
        cases hp : b.ps[y0.toNat]? with
        | none => simp
        | some p =>
          dsimp only
          have h1 := totB_mem (List.mem_of_getElem? hb)
          have h2 := totP_mem (List.mem_of_getElem? hp)
          split
          · simp only [Option.getD_some]; omega
          · simp
    · simp
  generalize readD (bs.map BkR.D) x0 y0 = R at cS cI hzl
  have hcb : Hid (∀ ts : List BkR, ts.map BkR.D = bs.map BkR.D → 1 + cBs ts ≤ 9999990) := fun ts h => by
    have := cBs_le ts
    rw [h] at this
    have h2 := htot.out
    omega
  obtain ⟨zs, hzs⟩ : ∃ zs, R.getD [] = zs := ⟨_, rfl⟩
  obtain ⟨ok, hok⟩ : ∃ ok, R.isSome = ok := ⟨_, rfl⟩
  rw [hzs] at hzl
  have cS' : ∀ (W : World) (B g : Nat) (ts : List BkR), NewBs W B (.slice (some ⟨g, 0, none⟩) n n) (bs.map BkR.D) ts → Calls Try.prog 20 #[.agg #[.slice (some ⟨g, 0, none⟩) n n], .int .i64 x0, .int .i64 y0] W fun e w' => (∃ a c, e = .returned (.tuple #[.slice a zs.length c, .bool ok]) ∧ RowB w' (.slice a zs.length c) zs.length zs ∧ ∀ g, (Value.slice a zs.length c).ownBlock = some g → W.heap.size ≤ g) ∧ Below W.heap.size W w' := fun W B g ts h => (cS W B g ts h).mono fun e w' hA => by
    obtain ⟨⟨v, e1, e2, e3⟩, hb⟩ := hA
    rw [hzs] at e2
    rw [hok] at e1
    obtain ⟨a1, c1, rfl, _⟩ := (OwnV.rowB e2).form
    exact ⟨⟨a1, c1, e1, OwnV.rowB e2, e3⟩, hb⟩
  have cI' : ∀ (W : World) (B g : Nat) (ts : List BkR), NewBs W B (.slice (some ⟨g, 0, none⟩) n n) (bs.map BkR.D) ts → Calls Try.prog 21 #[.agg #[.slice (some ⟨g, 0, none⟩) n n], .int .i64 x0, .int .i64 y0] W fun e w' => (∃ a c, e = .returned (.tuple #[.slice a zs.length c, .bool ok]) ∧ RowB w' (.slice a zs.length c) zs.length zs ∧ ∀ g, (Value.slice a zs.length c).ownBlock = some g → W.heap.size ≤ g) ∧ Below W.heap.size W w' := fun W B g ts h => (cI W B g ts h).mono fun e w' hA => by
    obtain ⟨⟨v, e1, e2, e3⟩, hb⟩ := hA
    rw [hzs] at e2
    rw [hok] at e1
    obtain ⟨a1, c1, rfl, _⟩ := (OwnV.rowB e2).form
    exact ⟨⟨a1, c1, e1, OwnV.rowB e2, e3⟩, hb⟩
  obtain ⟨nz, hnz⟩ : ∃ nz, zs.length = nz := ⟨_, rfl⟩
  rw [hnz] at cS' cI' hzl
  have CS : Hid _ := cS'
  have CI : Hid _ := cI'
  have HRA : Hid (RdBs w a bs) := hr
  have HNZ : Hid (zs.length = nz) := hnz
  have CE : Hid (∀ (W : World) (a b : Option Addr) (c d : Nat), Rd W a zs → Rd W b zs → _) := fun W a b c d h1 h2 => eqByteS_true a b nz c d zs W hnz (by omega) h1 h2
  have hoo : (ok != ok) = false := by simp
  clear cS cI cS' cI' hr hn hi hm hwx hwy B0 z0 b1 hzs hok hnz
  have q0 := z1.cell 0
  simp at q0
  obtain ⟨G0, hG0⟩ : ∃ G, w.heap.size = G := ⟨_, rfl⟩
  have hG0' : Hid (w.heap.size = G0) := hG0
  rw [hG0] at z1 q0 ⊢
  go_wp2_with fail
  refine (CA.out w1 (RdBs.keep HRA.out B1)).mono ?_
  rintro e w2 ⟨gA, tA, rfl, qA, b2⟩
  have B2 := B1.trans (b2.mono B1.size)
  have z2 := z1.keep b2
  clear q0 z1 b2
  go_wp2_with fail
  refine (CS.out w2 _ gA tA qA).mono ?_
  rintro e w3 ⟨⟨aS, cpS, rfl, rS', nS⟩, b3⟩
  have rS : RowB w3 (.slice aS nz cpS) nz zs := rS'
  clear rS' nS
  have B3 := B2.trans (b3.mono B2.size)
  have z3 := z2.keep b3
  have hz3 := z3.lt
  clear qA z2 b3
  have q0 := z3.cell 0
  simp at q0
  go_wp2_with fail
  refine (CA.out w3 (RdBs.keep HRA.out B3)).mono ?_
  rintro e w4 ⟨gB, tB, rfl, qB, b4⟩
  have B4 := B3.trans (b4.mono B3.size)
  have z4 := z3.keep b4
  have rS4 := rS.keepB b4
  have hSF : Hid (∀ g, (Value.slice aS nz cpS).ownBlock = some g → g ∉ fpBs (.slice (some ⟨gB, 0, none⟩) n n) tB ∧ g < w4.heap.size) := fun g hg => by
    have h1 := (rS.at_ hg).1
    exact ⟨fun hf => by have h2 := qB.new g hf; omega, (rS4.at_ hg).1⟩
  have b5 : Below w4.heap.size w4 (w4.alloc (.cells #[.slice (some ⟨gB, 0, none⟩) n n] 24)) := (Below.refl _ w4).alloc (Nat.le_refl _) _
  have m5 := Blk.new w4 24 #[.slice (some ⟨gB, 0, none⟩) n n]
  clear q0 z3 b4 rS
  go_wp2_with fail
  obtain ⟨W5, hW5⟩ : ∃ W, w4.alloc (.cells #[.slice (some ⟨gB, 0, none⟩) n n] 24) = W := ⟨_, rfl⟩
  rw [hW5] at b5 m5 ⊢
  clear hW5
  obtain ⟨G4, hG4⟩ : ∃ G, w4.heap.size = G := ⟨_, rfl⟩
  have hxF : Hid (∀ g ∈ fpBs (.slice (some ⟨gB, 0, none⟩) n n) tB, g < G4 ∧ G0 < g) := fun g hg => by
    have h1 := qB.own.lt g hg
    have h2 := qB.new g hg
    exact ⟨by omega, by omega⟩
  rw [hG4] at m5 hSF ⊢
  have hG04 : G0 < G4 := by have := z4.lt; omega
  have B5 := B4.trans (b5.mono B4.size)
  have z5 := z4.keep b5
  have qB5 := qB.keep b5
  have rS5 := rS4.keepB b5
  clear qB z4 b5 rS4
  refine (CI.out W5 _ gB tB qB5).mono ?_
  rintro e w6 ⟨⟨aI, cpI, rfl, rI', nI⟩, b6⟩
  have rI : RowB w6 (.slice aI nz cpI) nz zs := rI'
  clear rI'
  have B6 := B5.trans (b6.mono B5.size)
  have z6 := z5.keep b6
  have m6 := m5.keep b6
  have qB6 := qB5.keep b6
  have rS6 := rS5.keepB b6
  have hIF : Hid (∀ g, (Value.slice aI nz cpI).ownBlock = some g → g ∉ fpBs (.slice (some ⟨gB, 0, none⟩) n n) tB ∧ G4 < g) := fun g hg => by
    have h1 := nI g hg
    have h3 := m5.lt
    exact ⟨fun hf => by have h2 := qB5.own.lt g hf; omega, by omega⟩
  clear qB5 z5 m5 b6 rS5 nI
  go_wp2_with fail
  refine (CE.out w6 aI aS cpI cpS rI.rdS rS6.rdS).mono ?_
  rintro e w7 ⟨rfl, b7⟩
  have B7 := B6.trans (b7.mono B6.size)
  have z7 := z6.keep b7
  have m7 := m6.keep b7
  have qB7 := qB6.keep b7
  have rS7 := rS6.keepB b7
  have rI7 := rI.keepB b7
  clear qB6 z6 m6 b7 rS6 rI
  have q0 := z7.cell 0
  have p0 := m7.cell 0
  simp at q0 p0
  have r7 := RdBs.keep HRA.out B7.drew
  have b7d := (Below.refl w7.heap.size w7).drew
  have qB7d := qB7.keep b7d
  have m7d := m7.keep b7d
  have hbs7 := B7.size
  have HC7 : Hid (NewBs w7.drew w3.heap.size (.slice (some ⟨gB, 0, none⟩) n n) (bs.map BkR.D) tB ∧ RowB w7.drew (.slice aS nz cpS) nz zs ∧ RowB w7.drew (.slice aI nz cpI) nz zs ∧ Blk w7.drew G0 31 #[.slice a n cap] ∧ Blk w7.drew G4 24 #[.slice (some ⟨gB, 0, none⟩) n n] ∧ Below w.heap.size w w7.drew) := ⟨qB7d, rS7.keepB b7d, rI7.keepB b7d, z7.keep b7d, m7d, B7.drew⟩
  clear qB7 z7 m7 rS7 rI7 b7d B7
  go_wp2
  go_region_with (first
    | (go_at_call 16; (with_reducible refine (CA.out _ r7).mono ?_); rintro e wA ⟨gC, tC, rfl, qC, b9⟩; have qAA := qB7d.keep b9; have t0 := (m7d.keep b9).cell 0; simp at t0)
    | (go_at_call 11; refine (eqNew HN.out (Nat.le_trans htot.out (by omega)) qAA qC).mono ?_; rintro e w8 ⟨rfl, b10⟩))
  all_goals
    have b11 := b9.trans (b10.mono b9.size)
    obtain ⟨qB8, rS8, rI8, z8, m8, B8⟩ := HC7.out
    replace qB8 := qB8.keep b11
    replace rS8 := rS8.keepB b11
    replace rI8 := rI8.keepB b11
    replace z8 := z8.keep b11
    replace m8 := m8.keep b11
    replace B8 := B8.trans (b11.mono B8.size)
    clear b9 b10 b11 qC qAA r7 qB7d m7d q0 p0 HC7
    try clear t0
    have p0 := m8.cell 0
    simp at p0
    go_wp2_with fail
    have hcbo := hcb.out tB qB8.D
    refine (markCh_any (.slice (some ⟨gB, 0, none⟩) n n) 1 tB w8 (Nat.le_refl _) hcbo qB8.own qB8.nd).mono ?_
    rintro e w9 ⟨rfl, _, sv9⟩
    have rS9 := rS8.svs sv9 (fun g hg => (hSF.out g hg).1)
    have rI9 := rI8.svs sv9 (fun g hg => (hIF.out g hg).1)
    have z9 := Blk.svs z8 sv9 (fun hf => by have := hxF.out G0 hf; omega)
    have B9 : Below w.heap.size w w9 := Below.svs B8 sv9 (fun g hg => by have := hxF.out g hg; have := hG0'.out; omega) (Nat.le_refl _)
    obtain ⟨Q, hQ⟩ : ∃ Q, 1 + cBs tB = Q := ⟨_, rfl⟩
    rw [hQ]
    have hQ0 : ¬ (Q : Int) < 0 := by omega
    clear hQ hcbo sv9 rS8 rI8 z8 m8 B8 qB8 p0
    go_wp2_with fail
    refine (CE.out w9 aI aS cpI cpS rI9.rdS rS9.rdS).mono ?_
    rintro e w10 ⟨rfl, b10⟩
    have rS10 := rS9.keepB b10
    have rI10 := rI9.keepB b10
    have z10 := z9.keep b10
    have B10 := B9.trans (b10.mono B9.size)
    clear rS9 rI9 z9 B9 b10
    go_wp2_with fail
    refine (markBG (.slice aI nz cpI) nz 1 zs w10 (Nat.le_refl _) (by omega) rI10).mono ?_
    rintro e w11 ⟨rfl, mI, hgr⟩
    have sv11 : Sv ((Value.slice aI nz cpI).ownBlock.toList) w10 w11 := Sv.gr hgr (fun g hg => by simp [hg])
    have hSI : ∀ g, (Value.slice aS nz cpS).ownBlock = some g → g ∉ (Value.slice aI nz cpI).ownBlock.toList := fun g hg hf => by
      have h1 := hIF.out g (by simpa using hf)
      have h2 := hSF.out g hg
      omega
    have rS11 := rS10.svs sv11 hSI
    have z11 := Blk.svs z10 sv11 (fun hf => by have h1 := hIF.out G0 (by simpa using hf); have := hG04; omega)
    have B11 : Below w.heap.size w w11 := Below.svs B10 sv11 (fun g hg => by have h1 := hIF.out g (by simpa using hg); have := hG04; have := hG0'.out; omega) (Nat.le_refl _)
    obtain ⟨M, hM⟩ : ∃ M, 1 + nz = M := ⟨_, rfl⟩
    rw [hM]
    have hM0 : ¬ (M : Int) < 0 := by omega
    have hMM : ((M : Int) != (M : Int)) = false := by simp
    clear rS10 rI10 z10 B10 hgr sv11 hSI
    have q0 := z11.cell 0
    simp at q0
    go_wp2_with fail
    refine (heldBG (.slice aI nz cpI) nz 1 w11 (Nat.le_refl _) (by omega) mI).mono ?_
    rintro e w12 ⟨rfl, hw⟩
    obtain rfl := hw.symm
    rw [hM]
    go_wp2_with fail
    refine (CA.out w11 (RdBs.keep HRA.out B11)).mono ?_
    rintro e w13 ⟨gD, tD, rfl, qD, b13⟩
    have rS13 := rS11.keepB b13
    have mI13 := RowB.keepB mI b13
    have B13 := B11.trans (b13.mono B11.size)
    clear rS11 mI z11 q0 B11 b13
    go_wp2_with fail
    refine (CI.out w13 _ gD tD qD).mono ?_
    rintro e w14 ⟨⟨aJ, cpJ, rfl, rJ', nJ⟩, b14⟩
    have rJ : RowB w14 (.slice aJ nz cpJ) nz zs := rJ'
    have rS14 := rS13.keepB b14
    have mI14 := mI13.keepB b14
    have B14 := B13.trans (b14.mono B13.size)
    clear rJ' nJ rS13 mI13 B13 b14 qD
    go_wp2_with fail
    refine (CE.out w14 aJ aS cpJ cpS rJ.rdS rS14.rdS).mono ?_
    rintro e w15 ⟨rfl, b15⟩
    have mI15 := mI14.keepB b15
    have B15 := B14.trans (b15.mono B14.size)
    clear rJ rS14 mI14 B14 b15
    go_wp2_with fail
    refine (heldBG (.slice aI nz cpI) nz 1 w15 (Nat.le_refl _) (by omega) mI15).mono ?_
    rintro e w16 ⟨rfl, hw⟩
    obtain rfl := hw.symm
    rw [hM]
    clear hM
    go_wp2
    go_ret
    rw [← hG0'.out]
    exact ⟨rfl, B15⟩

/-! ### THE ROW's STEP: WRITTEN OUT: LEAVE IT -/
set_option maxRecDepth 100000 in
theorem lifted (os : Os) (started : os.Started) (H : Type) (enc : TypeId × Value → H) :
    ReturnsInHanded {} Try.checked os 6 .any (Rows.fnExactReadPageSpec.pre6 enc Try.prog Try.f6 Rows.fnExactReadPageRow.domain false) (Rows.fnExactReadPageSpec.post enc Try.prog Try.f6 false true false false) := by
  refine returnsInHanded_of_change (C := Try.checked) own started (by kernel_rfl) Try.func6
    (ChangeSpec.witness6 (enc := enc) (C := Try.checked) false ⟨#[], #[.agg #[.slice none 0 0], .int .i64 0, .int .i64 0], []⟩ 8 (by kernel_rfl) (by kernel_rfl) (by kernel_rfl) (by kernel_rfl)) ?_
  intro W base args ds gs before hval0 hW hcnd _
  have hval : ∀ (j : Nat) t v, Try.f6.params[j]? = some t → args[j]? = some v → Value.okWide Try.prog W .any base t v := hval0
  have hW' := hW
  obtain ⟨p, q, hA0, hV, rfl, hfz, hnd⟩ := hW
  have hA : DataW.TrodAll enc Try.prog W 0 (fun _ => true) true Try.f6.params.toList args.toList ds p := hA0
  rw [Try.params6] at hA hval
  obtain ⟨v0, vs0, d0, ds0, p0, q0, hargs, rfl, rfl, h0, r0⟩ := trodAll_cons hA
  obtain ⟨v1, vs1, d1, ds1, p1, q1, rfl, rfl, rfl, h1, r1⟩ := trodAll_cons r0
  obtain ⟨v2, vs2, d2, ds2, p2, q2, rfl, rfl, rfl, h2, r2⟩ := trodAll_cons r1
  obtain ⟨rfl, rfl, rfl⟩ := trodAll_nil r2
  obtain rfl : args = #[v0, v1, v2] := by cases args; simp_all
  obtain ⟨rfl, rfl⟩ := trodVars_none hV
  have k0 := h0
  have lt0 : ∀ x ∈ p0, x.block < W.heap.size := by obtain ⟨m, hm⟩ := k0; exact DataW.trod_lt m _ _ _ hm
  obtain ⟨x0, c0, rs0, rfl, m0, i0, w0⟩ := open_chip (hval 0 31 v0 rfl rfl) h0
  obtain ⟨s1, rfl, rfl, rfl, w1⟩ := open_int Try.underlying3 (hval 1 3 v1 rfl rfl) h1
  obtain ⟨s2, rfl, rfl, rfl, w2⟩ := open_int Try.underlying3 (hval 2 3 v2 rfl rfl) h2
  clear hA0 hval0
  refine (walk x0 c0 rs0 s1 s2 W m0 i0 w0 w1 w2).mono fun e W' ⟨he, bel⟩ => ?_
  subst he
  exact ⟨_, rfl, _, _, _, [], _, [], hW', trodAll_mk1 (shut_bool Try.underlying4 _), (trodAll_cons_mk (Below.trod laidOut (by kernel_rfl) (of_decide_eq_true (by kernel_rfl)) k0 bel lt0) (trodAll_cons_mk (shut_int Try.underlying3 w1) (trodAll_cons_mk (shut_int Try.underlying3 w2) trodAll_mk0))), rfl, bel.frame _, fun h => by cases h⟩

theorem over : Rows.fnExactReadPageRow.holds Try.pinned (OpenSpec.ofChange Rows.fnExactReadPageSpec) :=
  OpenClaim.holds_of_wide 6 Try.f6 rfl rfl rfl rfl rfl rfl rfl ⟨rfl, rfl, rfl, rfl, rfl⟩ rfl rfl rfl rfl rfl (by kernel_rfl) Try.func6 (by kernel_rfl)
    (of_decide_eq_true (by kernel_rfl)) (by unfold Func.isWrapper; first | (rw [if_pos (by decide +kernel)]; kernel_rfl) | (rw [if_neg (by decide +kernel)]; exact ⟨rfl, rfl⟩))
    (fun os started H enc _ => lifted os started H enc)

/-- ████ THE STATEMENT ████ -/
theorem proved : Rows.FnExactReadPageSaid := over
#print axioms proved
end Go.Proofs.Ythlfhbogpnbmhaa.fnExactReadPage
