/-
  DropInode answers as the specification, keeps nothing of its argument and owns its answer
  The frame is the one that the guide's own program writes for a law over one []byte, turned to this law's parameters.
-/
import Derived.Test.YtnllhpeddoaehaaRows
import Derived.Test.YtnllhpeddoaehaaTabW
import Derived.Test.YtnllhpeddoaehaaDropW
import Derived.WalkKit
import Derived.ProofKit
import Derived.OpenShut
import Derived.ShutString
import Derived.ChangeOld
import Derived.Below
namespace Go.Proofs.Ytnllhpeddoaehaa.fnExactDropInode
open Go.ChangeShapes Go.WideShapes Go.ChangeAt Go.RowKit
open Go.ChangeMaps (open_string shut_string)
set_option linter.unusedVariables false

theorem own : ownKnob Try.prog.godebug = none := by kernel_rfl
theorem laidOut : laidOutB Try.prog = true := by kernel_rfl

/-! ### STEP 1: THE WALK: the Go text returns true, AND WRITES NOTHING THAT WAS THERE: 'Below w.heap.size w w'' (Derived/Below.lean: '.refl', '.alloc', '.drew', '.setCell' at a new block, '.trans'). Open each 'IsRow' by 'rcases' AHEAD of 'go_enter'; part every test ahead of the walk. -/
set_option maxRecDepth 100000 in
set_option maxHeartbeats 8000000 in
theorem walk (a : Option Addr) (cap : Nat) (nx : Int) (rs : List InoR) (x : Int) (w : World) (hm : rs.length ≤ maxLen) (hi : ∀ r ∈ rs, InoIn r.D) (hr : RdI w a rs) (hwx : (Lit.int .i64 x).wf = true) :
    Calls Try.prog 11 #[.agg #[.slice a rs.length cap, .int .i64 nx], .int .i64 x] w fun e w' => e = .returned (.bool true) ∧ Below w.heap.size w w' := by
  obtain ⟨n, hn⟩ : ∃ n, rs.length = n := ⟨_, rfl⟩
  rw [hn] at hm ⊢
  have B0 : Below w.heap.size w (w.alloc (.cells #[.slice a n cap, .int .i64 nx] 57)) := (Below.refl _ w).alloc (Nat.le_refl _) _
  have z0 := BoxT.new w 57 a n cap nx
  go_enter Try.func11, Try.ntmps11
  go_wp2_with fail
  obtain ⟨W0, hW0⟩ : ∃ W, w.alloc (.cells #[.slice a n cap, .int .i64 nx] 57) = W := ⟨_, rfl⟩
  rw [hW0] at B0 z0 ⊢
  clear hW0
  refine (szTab_w a n cap 1048576 nx rs W0 hn hm (by omega) hi (hr.keep B0)).mono ?_
  rintro e w1 ⟨hsz, b1⟩
  have B1 := B0.trans (b1.mono B0.size)
  have z1 := z0.keep b1
  rcases hsz with rfl | ⟨v, hv, rfl, hn1, hsm⟩
  · go_wp2
    go_ret
    exact ⟨rfl, B1⟩
  have hx0 : ¬ (v : Int) < 0 := by omega
  have hwf : ∀ r ∈ rs, (Lit.int .i64 r.D.ino).wf = true := fun r h => (hi r h).ino
  have HS : Hid _ := hsm
  have hcn : n + cntI rs ≤ 1048576 := by omega
  have CA : Hid _ := fun (W : World) (h : RdI W a rs) => toTab_j a n cap nx rs W hn hn1 HS.out h
  have cS := fun (W : World) (B g : Nat) (ts : List InoR) (h : TabQ W B g n rs ts) => dropSQ nx x hn1 HS.out h
  have cI := fun (W : World) (B g : Nat) (ts : List InoR) (h : TabQ W B g n rs ts) => dropIQ nx x hn1 hwx hwf HS.out h
  have cK := fun (W : World) (g Lo Hi : Nat) (js : List InoJ) (h1 : (js.map InoJ.r).map InoR.D = rs.map InoR.D) (hap : ApJ g Lo Hi js) (hH : Hi ≤ W.heap.size) (hown : OwnI W g n n (js.map InoJ.r)) (hG : ∀ (i : Nat) (j : InoJ), js[i]? = some j → j.G W) => markTab_any nx g n n Lo Hi 1 js W (by have := congrArg List.length h1; simp at this; omega) (Nat.le_refl _) (by omega) (q_bound h1 hn hcn) hap hH hown hG
  have hds := drop_small x HS.out
  have hdc := drop_cnt rs x
  rw [hn] at hdc
  unfold DropOut at cS cI
  generalize dropR rs x = ds at cS cI hds hdc
  obtain ⟨m, hml⟩ : ∃ m, ds.length = m := ⟨_, rfl⟩
  rw [hml] at cS cI hdc
  have hmb : m ≤ 1048576 := by omega
  have cE : ∀ (W : World) (B B' : Nat) (a a' : Option Addr) (c c' : Nat) (js js' : List InoJ), DQT B W (.slice a m c) ds js → DQT B' W (.slice a' m c') ds js' → js.length = m → js'.length = m → Calls Try.prog 40 #[.agg #[.slice a m c, .int .i64 nx], .agg #[.slice a' m c', .int .i64 nx]] W fun e w' => e = .returned (.bool true) ∧ Below W.heap.size W w' := fun W B B' a a' c c' js js' h h' h1 h2 => eqV nx hmb hds h h' h1 h2
  have cQ : ∀ (js : List InoJ) (W : World) (B : Nat) (v : Value), DQT B W v ds js → qAt 1 js m ≤ 9999990 := fun js W B v h => q_bound h.ds hml (by omega)
  have CS : Hid _ := cS
  have CI : Hid _ := cI
  have CE : Hid _ := cE
  have CQ : Hid _ := cQ
  have CK : Hid _ := cK
  have HRA : Hid _ := hr
  clear cS cI cE cQ cK hr hn hsm hwf hi hm B0 z0 b1 hwx hv hcn hds hdc hml
  obtain ⟨q0, q1⟩ := z1.two
  obtain ⟨G0, hG0⟩ : ∃ G, w.heap.size = G := ⟨_, rfl⟩
  rw [hG0] at z1 q0 q1 ⊢
  have hz1 := z1.lt
  go_wp2_with fail
  refine (CA.out w1 (RdI.keep HRA.out B1)).mono ?_
  rintro e w2 ⟨gA, jA, rfl, qA, _, b2⟩
  have B2 := B1.trans (b2.mono B1.size)
  have z2 := z1.keep b2
  have hs2 := b2.size
  clear q0 q1 z1 b2
  go_wp2_with fail
  refine (CS.out w2 _ gA _ qA).mono ?_
  rintro e w3 ⟨aS, eS, jS, rfl, gS, hjS, b3⟩
  have B3 := B2.trans (b3.mono B2.size)
  have z3 := z2.keep b3
  have hs3 := b3.size
  have apS := gS.apV
  have b3' : Below w3.heap.size w3 (w3.alloc (.cells #[.slice aS m eS, .int .i64 nx] 43)) := (Below.refl _ w3).alloc (Nat.le_refl _) _
  have zS := BoxT.new w3 43 aS m eS nx
  have z3' := z3.keep b3'
  obtain ⟨q0, q1⟩ := z3'.two
  clear qA z2 b3
  go_wp2_with fail
  obtain ⟨W3, hW3⟩ : ∃ W, w3.alloc (.cells #[.slice aS m eS, .int .i64 nx] 43) = W := ⟨_, rfl⟩
  rw [hW3] at b3' zS z3' q0 q1 ⊢
  clear hW3
  have gS3 := gS.keep b3'
  have B3' := B3.trans (b3'.mono B3.size)
  have hsW3 := b3'.size
  have hzS := zS.lt
  obtain ⟨TS, hTS⟩ : ∃ T, w3.heap.size = T := ⟨_, rfl⟩
  obtain ⟨BS, hBS⟩ : ∃ T, w2.heap.size = T := ⟨_, rfl⟩
  rw [hTS] at apS zS hsW3 hzS hs3 ⊢
  rw [hBS] at gS3 hs3 hs2
  clear gS B3 b3' z3 q0 q1
  refine (CA.out W3 (RdI.keep HRA.out B3')).mono ?_
  rintro e w4 ⟨gB, jB, rfl, qB, jsB, b4⟩
  have B4 := B3'.trans (b4.mono B3'.size)
  have z4 := z3'.keep b4
  have gS4 := gS3.keep b4
  have zS4 := zS.keep b4
  have hs4 := b4.size
  have hgB := qB.at_
  have apB := jsB.ap (Nat.lt_succ_self _) hgB qB.own.lt
  have b4' : Below w4.heap.size w4 (w4.alloc (.cells #[.slice (some ⟨gB, 0, none⟩) n n, .int .i64 nx] 43)) := (Below.refl _ w4).alloc (Nat.le_refl _) _
  have mB := BoxT.new w4 43 (some ⟨gB, 0, none⟩) n n nx
  clear z3' gS3 zS b4
  go_wp2_with fail
  obtain ⟨W4, hW4⟩ : ∃ W, w4.alloc (.cells #[.slice (some ⟨gB, 0, none⟩) n n, .int .i64 nx] 43) = W := ⟨_, rfl⟩
  rw [hW4] at b4' mB ⊢
  clear hW4
  have B5 := B4.trans (b4'.mono B4.size)
  have z5 := z4.keep b4'
  have gS5 := gS4.keep b4'
  have zS5 := zS4.keep b4'
  have qB5 := qB.keep b4'
  have jsB5 := jsB.keep b4'
  have hsW4 := b4'.size
  have hmB := mB.lt
  obtain ⟨Hi, hHi⟩ : ∃ T, w4.heap.size = T := ⟨_, rfl⟩
  obtain ⟨Lo, hLo⟩ : ∃ T, W3.heap.size = T := ⟨_, rfl⟩
  rw [hHi] at mB hsW4 hmB apB hs4 ⊢
  rw [hLo] at apB hs4 hsW3 hzS hgB qB5
  clear z4 gS4 zS4 qB jsB B4 b4'
  refine (CI.out W4 _ gB _ qB5).mono ?_
  rintro e w6 ⟨aI, eI, jI, rfl, gI, hjI, b6⟩
  have B6 := B5.trans (b6.mono B5.size)
  have z6 := z5.keep b6
  have gS6 := gS5.keep b6
  have zS6 := zS5.keep b6
  have qB6 := qB5.keep b6
  have jsB6 := jsB5.keep b6
  have mB6 := mB.keep b6
  have hs6 := b6.size
  have apI := gI.apV
  have b6' : Below w6.heap.size w6 (w6.alloc (.cells #[.slice aI m eI, .int .i64 nx] 43)) := (Below.refl _ w6).alloc (Nat.le_refl _) _
  have zI := BoxT.new w6 43 aI m eI nx
  have zS7 := zS6.keep b6'
  obtain ⟨x0, x1⟩ := zS7.two
  clear z5 gS5 zS5 qB5 jsB5 mB b6
  go_wp2_with fail
  obtain ⟨W6, hW6⟩ : ∃ W, w6.alloc (.cells #[.slice aI m eI, .int .i64 nx] 43) = W := ⟨_, rfl⟩
  rw [hW6] at b6' zI zS7 ⊢
  clear hW6 x0 x1
  have B7 := B6.trans (b6'.mono B6.size)
  have z7 := z6.keep b6'
  have gI7 := gI.keep b6'
  have gS7 := gS6.keep b6'
  have qB7 := qB6.keep b6'
  have jsB7 := jsB6.keep b6'
  have mB7 := mB6.keep b6'
  have hsW6 := b6'.size
  have hzI := zI.lt
  obtain ⟨TI, hTI⟩ : ∃ T, w6.heap.size = T := ⟨_, rfl⟩
  obtain ⟨BI, hBI⟩ : ∃ T, W4.heap.size = T := ⟨_, rfl⟩
  rw [hTI] at apI zI hsW6 hzI hs6 ⊢
  rw [hBI] at gI7 hs6 hmB hsW4
  clear gI gS6 zS6 qB6 jsB6 mB6 z6 B6 b6'
  refine (CE.out W6 BI BS _ _ _ _ jI jS gI7 gS7 hjI hjS).mono ?_
  rintro e w7 ⟨rfl, b7⟩
  have B8 := B7.trans (b7.mono B7.size)
  have z8 := z7.keep b7
  have gI8 := gI7.keep b7
  have gS8 := gS7.keep b7
  have qB8 := qB7.keep b7
  have jsB8 := jsB7.keep b7
  have mB8 := mB7.keep b7
  have zI8 := zI.keep b7
  have zS8 := zS7.keep b7
  have hs7 := b7.size
  clear gI7 gS7 zI zS7 qB7 jsB7 mB7 z7 b7
  obtain ⟨q0, q1⟩ := z8.two
  obtain ⟨p0, p1⟩ := mB8.two
  have r8 := RdI.keep HRA.out B8.drew
  have qB8d := qB8.keep (Below.refl w7.heap.size w7).drew
  have mB8d := mB8.keep (Below.refl w7.heap.size w7).drew
  have z8d := z8.keep (Below.refl w7.heap.size w7).drew
  go_upto_region 10 with fail
  go_region_held3 (fun W : World => W.cell? ⟨Hi, 0, none⟩ = some (.slice (some ⟨gB, 0, none⟩) n n) ∧ W.cell? ⟨Hi, 1, none⟩ = some (.int .i64 nx) ∧ W.cell? ⟨G0, 0, none⟩ = some (.slice a n cap) ∧ W.cell? ⟨G0, 1, none⟩ = some (.int .i64 nx)) (go_keep) (first
    | (go_at_call 45; (with_reducible refine (CA.out _ r8).mono ?_); rintro e wA ⟨gC, jC, rfl, qC, _, b9⟩; have qAA := qB8d.keep b9; obtain ⟨t0, t1⟩ := (mB8d.keep b9).two; obtain ⟨t2, t3⟩ := (z8d.keep b9).two)
    | (go_at_call 40; refine (eqTabQ _ _ gB gC n n n nx rs _ _ _ hn1 HS.out qAA qC).mono ?_; rintro e wB ⟨rfl, b10⟩; obtain ⟨u0, u1⟩ := ((mB8d.keep b9).keep b10).two; obtain ⟨u2, u3⟩ := ((z8d.keep b9).keep b10).two))
  have bR : Below w7.heap.size w7 wB := ((Below.refl w7.heap.size w7).drew.trans b9).trans (b10.mono b9.size)
  have B9 := B8.trans (bR.mono B8.size)
  have z9 := z8.keep bR
  have gI9 := gI8.keep bR
  have gS9 := gS8.keep bR
  have qB9 := qB8.keep bR
  have jsB9 := jsB8.keep bR
  have mB9 := mB8.keep bR
  have zI9 := zI8.keep bR
  have zS9 := zS8.keep bR
  have hs9 := bR.size
  clear t0 t1 t2 t3 u0 u1 u2 u3 b9 b10 qC qAA q0 q1 p0 p1 r8 qB8d mB8d z8d gI8 gS8 qB8 jsB8 mB8 zI8 zS8 z8 bR
  obtain ⟨p0, p1⟩ := mB9.two
  go_wp2_with fail
  refine (CK.out wB gB Lo Hi jB qB9.cpd.1 apB (by omega) qB9.own jsB9.G).mono ?_
  rintro e w10 ⟨rfl, hTL⟩
  have hout := hTL.out
  have B10 : Below w.heap.size w w10 := Below.outs B9 hout (by omega) (Nat.le_refl _)
  have z10 := z9.outs hout (by omega)
  have gI10 := gI9.outs hout (by omega)
  have gS10 := gS9.outsLow apS hout (by omega)
  have zI10 := zI9.outs hout (by omega)
  have zS10 := zS9.outs hout (by omega)
  have hs10 := hout.size
  obtain ⟨qk, hqk⟩ : ∃ q, qAt 1 jB n = q := ⟨_, rfl⟩
  rw [hqk]
  have hqk0 : ¬ (qk : Int) < 0 := by omega
  obtain ⟨x0, x1⟩ := zS10.two
  obtain ⟨y0, y1⟩ := zI10.two
  clear z9 gI9 gS9 zI9 zS9 qB9 jsB9 mB9 hTL hout p0 p1 hqk apB
  go_wp2_with fail
  refine (CE.out w10 BI BS _ _ _ _ jI jS gI10 gS10 hjI hjS).mono ?_
  rintro e w11 ⟨rfl, b11⟩
  have B11 := B10.trans (b11.mono B10.size)
  have z11 := z10.keep b11
  have gI11 := gI10.keep b11
  have gS11 := gS10.keep b11
  have zI11 := zI10.keep b11
  have zS11 := zS10.keep b11
  have hs11 := b11.size
  clear z10 gI10 gS10 zI10 zS10 b11 x0 x1 y0 y1
  obtain ⟨y0, y1⟩ := zI11.two
  have hqI := CQ.out jI _ _ _ gI11
  go_wp2_with fail
  refine (markV (T := TI) nx (by omega) hqI gI11 hjI (by omega) apI).mono ?_
  rintro e w12 ⟨rfl, mG, hout⟩
  have B12 : Below w.heap.size w w12 := Below.outs B11 hout (by omega) (Nat.le_refl _)
  have z12 := z11.outs hout (by omega)
  have gS12 := gS11.outsLow apS hout (by omega)
  have zI12 := zI11.outs hout (by omega)
  have zS12 := zS11.outs hout (by omega)
  have hs12 := hout.size
  have cH : ∀ W : World, TI ≤ W.heap.size → TV W BI TI aI m eI jI → _ := fun W hT h => heldV nx (by omega) hqI hjI hT h
  obtain ⟨mm, hmm⟩ : ∃ q, qAt 1 jI m = q := ⟨_, rfl⟩
  rw [hmm] at cH ⊢
  have CH : Hid _ := cH
  clear z11 gI11 gS11 zI11 zS11 hout y0 y1 cH hqI hmm
  obtain ⟨y0, y1⟩ := zI12.two
  go_wp2_with fail
  refine (CH.out w12 (by omega) mG).mono ?_
  rintro e w13 ⟨rfl, b13⟩
  have B13 := B12.trans (b13.mono B12.size)
  have z13 := z12.keep b13
  have mG13 := mG.keep (by omega) b13
  have gS13 := gS12.keep b13
  have zI13 := zI12.keep b13
  have zS13 := zS12.keep b13
  have hs13 := b13.size
  have hmm0 : ¬ (mm : Int) < 0 := by omega
  have hmme : ((mm : Int) != (mm : Int)) = false := by simp
  clear mG z12 gS12 zI12 zS12 b13 y0 y1
  obtain ⟨q0, q1⟩ := z13.two
  go_wp2_with fail
  refine (CA.out w13 (RdI.keep HRA.out B13)).mono ?_
  rintro e w14 ⟨gD, jD, rfl, qD, _, b14⟩
  have B14 := B13.trans (b14.mono B13.size)
  have mG14 := mG13.keep (by omega) b14
  have gS14 := gS13.keep b14
  have zI14 := zI13.keep b14
  have zS14 := zS13.keep b14
  have hs14 := b14.size
  clear mG13 z13 gS13 zI13 zS13 b14 q0 q1
  go_wp2_with fail
  refine (CI.out w14 _ gD _ qD).mono ?_
  rintro e w15 ⟨aJ, eJ, jJ, rfl, gJ, hjJ, b15⟩
  have B15 := B14.trans (b15.mono B14.size)
  have mG15 := mG14.keep (by omega) b15
  have gS15 := gS14.keep b15
  have zI15 := zI14.keep b15
  have zS15 := zS14.keep b15
  have hs15 := b15.size
  have b15' : Below w15.heap.size w15 (w15.alloc (.cells #[.slice aJ m eJ, .int .i64 nx] 43)) := (Below.refl _ w15).alloc (Nat.le_refl _) _
  have zS16 := zS15.keep b15'
  obtain ⟨x0, x1⟩ := zS16.two
  clear qD mG14 gS14 zI14 zS14 b15
  go_wp2_with fail
  obtain ⟨W15, hW15⟩ : ∃ W, w15.alloc (.cells #[.slice aJ m eJ, .int .i64 nx] 43) = W := ⟨_, rfl⟩
  rw [hW15] at b15' ⊢
  clear hW15 x0 x1 zS16
  have gJ16 := gJ.keep b15'
  have mG16 := mG15.keep (by omega) b15'
  have gS16 := gS15.keep b15'
  have zI16 := zI15.keep b15'
  have B16 := B15.trans (b15'.mono B15.size)
  have hs16 := b15'.size
  clear gJ mG15 gS15 zI15 zS15 B15 b15'
  refine (CE.out W15 _ BS _ _ _ _ jJ jS gJ16 gS16 hjJ hjS).mono ?_
  rintro e w17 ⟨rfl, b17⟩
  have B17 := B16.trans (b17.mono B16.size)
  have mG17 := mG16.keep (by omega) b17
  have zI17 := zI16.keep b17
  have hs17 := b17.size
  clear gJ16 gS16 mG16 zI16 b17
  obtain ⟨y0, y1⟩ := zI17.two
  go_wp2_with fail
  refine (CH.out w17 (by omega) mG17).mono ?_
  rintro e w18 ⟨rfl, b18⟩
  have B18 := B17.trans (b18.mono B17.size)
  clear mG17 zI17 b18 y0 y1
  go_wp2
  go_ret
  exact ⟨rfl, B18⟩

/-! ### THE ROW's STEP: WRITTEN OUT: LEAVE IT -/
set_option maxRecDepth 100000 in
theorem lifted (os : Os) (started : os.Started) (H : Type) (enc : TypeId × Value → H) :
    ReturnsInHanded {} Try.checked os 11 .any (Rows.fnExactDropInodeSpec.pre6 enc Try.prog Try.f11 Rows.fnExactDropInodeRow.domain false) (Rows.fnExactDropInodeSpec.post enc Try.prog Try.f11 false true false false) := by
  refine returnsInHanded_of_change (C := Try.checked) own started (by kernel_rfl) Try.func11
    (ChangeSpec.witness6 (enc := enc) (C := Try.checked) false ⟨#[], #[.agg #[.slice none 0 0, .int .i64 0], .int .i64 0], []⟩ 8 (by kernel_rfl) (by kernel_rfl) (by kernel_rfl) (by kernel_rfl)) ?_
  intro W base args ds gs before hval0 hW hcnd _
  have hval : ∀ (j : Nat) t v, Try.f11.params[j]? = some t → args[j]? = some v → Value.okWide Try.prog W .any base t v := hval0
  have hW' := hW
  obtain ⟨p, q, hA0, hV, rfl, hfz, hnd⟩ := hW
  have hA : DataW.TrodAll enc Try.prog W 0 (fun _ => true) true Try.f11.params.toList args.toList ds p := hA0
  rw [Try.params11] at hA hval
  obtain ⟨v0, vs0, d0, ds0, p0, q0, hargs, rfl, rfl, h0, r0⟩ := trodAll_cons hA
  obtain ⟨v1, vs1, d1, ds1, p1, q1, rfl, rfl, rfl, h1, r1⟩ := trodAll_cons r0
  obtain ⟨rfl, rfl, rfl⟩ := trodAll_nil r1
  obtain rfl : args = #[v0, v1] := by cases args; simp_all
  obtain ⟨rfl, rfl⟩ := trodVars_none hV
  have k0 := h0
  have lt0 : ∀ x ∈ p0, x.block < W.heap.size := by obtain ⟨m, hm⟩ := k0; exact DataW.trod_lt m _ _ _ hm
  obtain ⟨x0, c0, n0, rs0, rfl, wn0, m0, i0, w0⟩ := open_tab (hval 0 57 v0 rfl rfl) h0
  obtain ⟨s1, rfl, rfl, rfl, w1⟩ := open_int Try.underlying3 (hval 1 3 v1 rfl rfl) h1
  clear hA0 hval0
  refine (walk x0 c0 n0 rs0 s1 W m0 i0 w0 w1).mono fun e W' ⟨he, bel⟩ => ?_
  subst he
  exact ⟨_, rfl, _, _, _, [], _, [], hW', trodAll_mk1 (shut_bool Try.underlying4 _), (trodAll_cons_mk (Below.trod laidOut (by kernel_rfl) (of_decide_eq_true (by kernel_rfl)) k0 bel lt0) (trodAll_cons_mk (shut_int Try.underlying3 w1) trodAll_mk0)), rfl, bel.frame _, fun h => by cases h⟩

theorem over : Rows.fnExactDropInodeRow.holds Try.pinned (OpenSpec.ofChange Rows.fnExactDropInodeSpec) :=
  OpenClaim.holds_of_wide 11 Try.f11 rfl rfl rfl rfl rfl rfl rfl ⟨rfl, rfl, rfl, rfl, rfl⟩ rfl rfl rfl rfl rfl (by kernel_rfl) Try.func11 (by kernel_rfl)
    (of_decide_eq_true (by kernel_rfl)) (by unfold Func.isWrapper; first | (rw [if_pos (by decide +kernel)]; kernel_rfl) | (rw [if_neg (by decide +kernel)]; exact ⟨rfl, rfl⟩))
    (fun os started H enc _ => lifted os started H enc)

/-- ████ THE STATEMENT ████ -/
theorem proved : Rows.FnExactDropInodeSaid := over
#print axioms proved
end Go.Proofs.Ytnllhpeddoaehaa.fnExactDropInode
