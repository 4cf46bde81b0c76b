/-
  InodeAt answers as the specification, keeps nothing of its argument and owns its answer
  The frame is the one that the guide's own program writes for a law over one []byte, turned to this law's parameters.
-/
import Derived.Test.YtnllhpeddoaehaaRows
import Derived.Test.YtnllhpeddoaehaaTabW
import Derived.Test.YtnllhpeddoaehaaAtW
import Derived.WalkKit
import Derived.ProofKit
import Derived.OpenShut
import Derived.ShutString
import Derived.ChangeOld
import Derived.Below
namespace Go.Proofs.Ytnllhpeddoaehaa.fnExactInodeAt
open Go.ChangeShapes Go.WideShapes Go.ChangeAt Go.RowKit
open Go.ChangeMaps (open_string shut_string)
set_option linter.unusedVariables false

theorem own : ownKnob Try.prog.godebug = none := by kernel_rfl
theorem laidOut : laidOutB Try.prog = true := by kernel_rfl

/-! ### STEP 1: THE WALK: the Go text returns true, AND WRITES NOTHING THAT WAS THERE: 'Below w.heap.size w w'' (Derived/Below.lean: '.refl', '.alloc', '.drew', '.setCell' at a new block, '.trans'). Open each 'IsRow' by 'rcases' AHEAD of 'go_enter'; part every test ahead of the walk. -/
set_option maxRecDepth 100000 in
set_option maxHeartbeats 8000000 in
theorem walk (a : Option Addr) (cap : Nat) (nx : Int) (rs : List InoR) (x : Int) (w : World) (hm : rs.length ≤ maxLen) (hi : ∀ r ∈ rs, InoIn r.D) (hr : RdI w a rs) (hwx : (Lit.int .i64 x).wf = true) :
    Calls Try.prog 9 #[.agg #[.slice a rs.length cap, .int .i64 nx], .int .i64 x] w fun e w' => e = .returned (.bool true) ∧ Below w.heap.size w w' := by
  obtain ⟨n, hn⟩ : ∃ n, rs.length = n := ⟨_, rfl⟩
  rw [hn] at hm ⊢
  have B0 : Below w.heap.size w (w.alloc (.cells #[.slice a n cap, .int .i64 nx] 57)) := (Below.refl _ w).alloc (Nat.le_refl _) _
  have z0 := BoxT.new w 57 a n cap nx
  go_enter Try.func9, Try.ntmps9
  go_wp2_with fail
  obtain ⟨W0, hW0⟩ : ∃ W, w.alloc (.cells #[.slice a n cap, .int .i64 nx] 57) = W := ⟨_, rfl⟩
  rw [hW0] at B0 z0 ⊢
  clear hW0
  refine (szTab_w a n cap 1048576 nx rs W0 hn hm (by omega) hi (hr.keep B0)).mono ?_
  rintro e w1 ⟨hsz, b1⟩
  have B1 := B0.trans (b1.mono B0.size)
  have z1 := z0.keep b1
  rcases hsz with rfl | ⟨v, hv, rfl, hn1, hsm⟩
  · go_wp2
    go_ret
    exact ⟨rfl, B1⟩
  have hx0 : ¬ (v : Int) < 0 := by omega
  have hwf : ∀ r ∈ rs, (Lit.int .i64 r.D.ino).wf = true := fun r h => (hi r h).ino
  have HS : Hid _ := hsm
  have hcn : n + cntI rs ≤ 1048576 := by omega
  have CA : Hid _ := fun (W : World) (h : RdI W a rs) => toTab_j a n cap nx rs W hn hn1 HS.out h
  have cS := fun (W : World) (B g : Nat) (ts : List InoR) (h : TabQ W B g n rs ts) => atSQ nx x hn1 HS.out h
  have cI := fun (W : World) (B g : Nat) (ts : List InoR) (h : TabQ W B g n rs ts) => atIQ nx x hn1 hwx hwf HS.out h
  have cK := fun (W : World) (g Lo Hi : Nat) (js : List InoJ) (h1 : (js.map InoJ.r).map InoR.D = rs.map InoR.D) (hap : ApJ g Lo Hi js) (hH : Hi ≤ W.heap.size) (hown : OwnI W g n n (js.map InoJ.r)) (hG : ∀ (i : Nat) (j : InoJ), js[i]? = some j → j.G W) => markTab_any nx g n n Lo Hi 1 js W (by have := congrArg List.length h1; simp at this; omega) (Nat.le_refl _) (by omega) (q_bound h1 hn hcn) hap hH hown hG
  have hDs := atD_small HS.out x
  unfold AtOut at cS cI
  generalize atD rs x = D at cS cI hDs
  generalize atB rs x = ok at cS cI
  have cE : ∀ (W : World) (B T B' T' : Nat) (a1 a2 a3 b1 b2 b3 : Option Addr) (c1 c2 c3 d1 d2 d3 : Nat), InoG W B T D (.slice a1 D.data.length c1) (.slice a2 D.ents.length c2) (.slice a3 D.attrs.length c3) → InoG W B' T' D (.slice b1 D.data.length d1) (.slice b2 D.ents.length d2) (.slice b3 D.attrs.length d3) → Calls Try.prog 33 #[.agg #[.int .i64 D.ino, .int .i64 D.kind, .int .i64 D.links, .slice a1 D.data.length c1, .slice a2 D.ents.length c2, .slice a3 D.attrs.length c3], .agg #[.int .i64 D.ino, .int .i64 D.kind, .int .i64 D.links, .slice b1 D.data.length d1, .slice b2 D.ents.length d2, .slice b3 D.attrs.length d3]] W fun e w' => e = .returned (.bool true) ∧ Below W.heap.size W w' := fun W B T B' T' a1 a2 a3 b1 b2 b3 c1 c2 c3 d1 d2 d3 h h' => eqInoG hDs h h'
  have hDf := And.intro hDs.data (And.intro hDs.ents hDs.attrs)
  obtain ⟨n1, h1⟩ : ∃ n, D.data.length = n := ⟨_, rfl⟩
  obtain ⟨n2, h2⟩ : ∃ n, D.ents.length = n := ⟨_, rfl⟩
  obtain ⟨n3, h3⟩ : ∃ n, D.attrs.length = n := ⟨_, rfl⟩
  have cM := fun (W : World) (B T : Nat) (v1 v2 v3 : Value) (hT : T ≤ W.heap.size) (h : InoG W B T D v1 v2 v3) => markInoG D.ino D.kind D.links B T 1 D v1 v2 v3 W n1 n2 n3 h1 h2 h3 (Nat.le_refl _) (by omega) hT h
  have cH := fun (W : World) (B T : Nat) (v1 v2 v3 : Value) (hT : T ≤ W.heap.size) (h : InoGM W B T 1 n1 n2 n3 v1 v2 v3) => heldInoG D.ino D.kind D.links B T 1 v1 v2 v3 W n1 n2 n3 (Nat.le_refl _) (by omega) hT h
  rw [h1, h2, h3] at cS cI cE
  generalize D.ino = i1 at cS cI cE cM cH
  generalize D.kind = i2 at cS cI cE cM cH
  generalize D.links = i3 at cS cI cE cM cH
  have CS : Hid _ := cS
  have CI : Hid _ := cI
  have CE : Hid _ := cE
  have CM : Hid _ := cM
  have CH : Hid _ := cH
  have CK : Hid _ := cK
  have HRA : Hid _ := hr
  have HDF : Hid _ := hDf
  clear cS cI cE cM cH cK hr hn hsm hwf hi hm B0 z0 b1 hDs h1 h2 h3 hDf hwx hv hcn
  obtain ⟨q0, q1⟩ := z1.two
  obtain ⟨G0, hG0⟩ : ∃ G, w.heap.size = G := ⟨_, rfl⟩
  rw [hG0] at z1 q0 q1 ⊢
  have hz1 := z1.lt
  go_wp2_with fail
  refine (CA.out w1 (RdI.keep HRA.out B1)).mono ?_
  rintro e w2 ⟨gA, jA, rfl, qA, _, b2⟩
  have B2 := B1.trans (b2.mono B1.size)
  have z2 := z1.keep b2
  have hs2 := b2.size
  clear q0 q1 z1 b2
  go_wp2_with fail
  refine (CS.out w2 _ gA _ qA).mono ?_
  rintro e w3 ⟨a1, c1, a2, c2, a3, c3, rfl, gS, b3⟩
  have B3 := B2.trans (b3.mono B2.size)
  have z3 := z2.keep b3
  have hs3 := b3.size
  have b3' : Below w3.heap.size w3 (w3.alloc (.cells #[.int .i64 i1, .int .i64 i2, .int .i64 i3, .slice a1 n1 c1, .slice a2 n2 c2, .slice a3 n3 c3] 27)) := (Below.refl _ w3).alloc (Nat.le_refl _) _
  have zS := Blk.new w3 27 #[.int .i64 i1, .int .i64 i2, .int .i64 i3, .slice a1 n1 c1, .slice a2 n2 c2, .slice a3 n3 c3]
  have z3' := z3.keep b3'
  obtain ⟨q0, q1⟩ := z3'.two
  clear qA z2 b3
  go_wp2_with fail
  obtain ⟨W3, hW3⟩ : ∃ W, w3.alloc (.cells #[.int .i64 i1, .int .i64 i2, .int .i64 i3, .slice a1 n1 c1, .slice a2 n2 c2, .slice a3 n3 c3] 27) = W := ⟨_, rfl⟩
  rw [hW3] at b3' zS z3' q0 q1 ⊢
  clear hW3
  have gS3 := gS.keep (Nat.le_refl _) b3'
  have B3' := B3.trans (b3'.mono B3.size)
  have hsW3 := b3'.size
  have hzS := zS.lt
  obtain ⟨TS, hTS⟩ : ∃ T, w3.heap.size = T := ⟨_, rfl⟩
  obtain ⟨BS, hBS⟩ : ∃ T, w2.heap.size = T := ⟨_, rfl⟩
  rw [hTS] at gS3 zS hsW3 hzS hs3 ⊢
  rw [hBS] at gS3 hs3 hs2
  clear gS B3 b3' z3 q0 q1
  refine (CA.out W3 (RdI.keep HRA.out B3')).mono ?_
  rintro e w4 ⟨gB, jB, rfl, qB, jsB, b4⟩
  have B4 := B3'.trans (b4.mono B3'.size)
  have z4 := z3'.keep b4
  have gS4 := gS3.keep hsW3 b4
  have zS4 := zS.keep b4
  have hs4 := b4.size
  have hgB := qB.at_
  have apB := jsB.ap (Nat.lt_succ_self _) hgB qB.own.lt
  have b4' : Below w4.heap.size w4 (w4.alloc (.cells #[.slice (some ⟨gB, 0, none⟩) n n, .int .i64 nx] 43)) := (Below.refl _ w4).alloc (Nat.le_refl _) _
  have mB := BoxT.new w4 43 (some ⟨gB, 0, none⟩) n n nx
  clear z3' gS3 zS b4
  go_wp2_with fail
  obtain ⟨W4, hW4⟩ : ∃ W, w4.alloc (.cells #[.slice (some ⟨gB, 0, none⟩) n n, .int .i64 nx] 43) = W := ⟨_, rfl⟩
  rw [hW4] at b4' mB ⊢
  clear hW4
  have B5 := B4.trans (b4'.mono B4.size)
  have z5 := z4.keep b4'
  have gS5 := gS4.keep (by omega) b4'
  have zS5 := zS4.keep b4'
  have qB5 := qB.keep b4'
  have jsB5 := jsB.keep b4'
  have hsW4 := b4'.size
  have hmB := mB.lt
  obtain ⟨Hi, hHi⟩ : ∃ T, w4.heap.size = T := ⟨_, rfl⟩
  obtain ⟨Lo, hLo⟩ : ∃ T, W3.heap.size = T := ⟨_, rfl⟩
  rw [hHi] at mB hsW4 hmB apB hs4 ⊢
  rw [hLo] at apB hs4 hsW3 hzS hgB qB5
  clear z4 gS4 zS4 qB jsB B4 b4'
  refine (CI.out W4 _ gB _ qB5).mono ?_
  rintro e w6 ⟨d1, e1, d2, e2, d3, e3, rfl, gI, b6⟩
  have B6 := B5.trans (b6.mono B5.size)
  have z6 := z5.keep b6
  have gS6 := gS5.keep (by omega) b6
  have zS6 := zS5.keep b6
  have qB6 := qB5.keep b6
  have jsB6 := jsB5.keep b6
  have mB6 := mB.keep b6
  have hs6 := b6.size
  have b6' : Below w6.heap.size w6 (w6.alloc (.cells #[.int .i64 i1, .int .i64 i2, .int .i64 i3, .slice d1 n1 e1, .slice d2 n2 e2, .slice d3 n3 e3] 27)) := (Below.refl _ w6).alloc (Nat.le_refl _) _
  have zI := Blk.new w6 27 #[.int .i64 i1, .int .i64 i2, .int .i64 i3, .slice d1 n1 e1, .slice d2 n2 e2, .slice d3 n3 e3]
  have zS7 := zS6.keep b6'
  obtain ⟨x0, x1, x2, x3, x4, x5⟩ := zS7.six
  clear z5 gS5 zS5 qB5 jsB5 mB b6
  go_wp2_with fail
  obtain ⟨W6, hW6⟩ : ∃ W, w6.alloc (.cells #[.int .i64 i1, .int .i64 i2, .int .i64 i3, .slice d1 n1 e1, .slice d2 n2 e2, .slice d3 n3 e3] 27) = W := ⟨_, rfl⟩
  rw [hW6] at b6' zI zS7 ⊢
  clear hW6 x0 x1 x2 x3 x4 x5
  have B7 := B6.trans (b6'.mono B6.size)
  have z7 := z6.keep b6'
  have gI7 := gI.keep (Nat.le_refl _) b6'
  have gS7 := gS6.keep (by omega) b6'
  have qB7 := qB6.keep b6'
  have jsB7 := jsB6.keep b6'
  have mB7 := mB6.keep b6'
  have hsW6 := b6'.size
  have hzI := zI.lt
  obtain ⟨TI, hTI⟩ : ∃ T, w6.heap.size = T := ⟨_, rfl⟩
  obtain ⟨BI, hBI⟩ : ∃ T, W4.heap.size = T := ⟨_, rfl⟩
  rw [hTI] at gI7 zI hsW6 hzI hs6 ⊢
  rw [hBI] at gI7 hs6 hmB hsW4
  clear gI gS6 zS6 qB6 jsB6 mB6 z6 B6 b6'
  refine (CE.out W6 BI TI BS TS _ _ _ _ _ _ _ _ _ _ _ _ gI7 gS7).mono ?_
  rintro e w7 ⟨rfl, b7⟩
  have B8 := B7.trans (b7.mono B7.size)
  have z8 := z7.keep b7
  have gI8 := gI7.keep hsW6 b7
  have gS8 := gS7.keep (by omega) b7
  have qB8 := qB7.keep b7
  have jsB8 := jsB7.keep b7
  have mB8 := mB7.keep b7
  have zI8 := zI.keep b7
  have zS8 := zS7.keep b7
  have hs7 := b7.size
  have hoo : (ok != ok) = false := by simp
  clear gI7 gS7 zI zS7 qB7 jsB7 mB7 z7 b7
  obtain ⟨q0, q1⟩ := z8.two
  obtain ⟨p0, p1⟩ := mB8.two
  have r8 := RdI.keep HRA.out B8.drew
  have qB8d := qB8.keep (Below.refl w7.heap.size w7).drew
  have mB8d := mB8.keep (Below.refl w7.heap.size w7).drew
  have z8d := z8.keep (Below.refl w7.heap.size w7).drew
  go_upto_region 10 with fail
  go_region_held3 (fun W : World => W.cell? ⟨Hi, 0, none⟩ = some (.slice (some ⟨gB, 0, none⟩) n n) ∧ W.cell? ⟨Hi, 1, none⟩ = some (.int .i64 nx) ∧ W.cell? ⟨G0, 0, none⟩ = some (.slice a n cap) ∧ W.cell? ⟨G0, 1, none⟩ = some (.int .i64 nx)) (go_keep) (first
    | (go_at_call 45; (with_reducible refine (CA.out _ r8).mono ?_); rintro e wA ⟨gC, jC, rfl, qC, _, b9⟩; have qAA := qB8d.keep b9; obtain ⟨t0, t1⟩ := (mB8d.keep b9).two; obtain ⟨t2, t3⟩ := (z8d.keep b9).two)
    | (go_at_call 40; refine (eqTabQ _ _ gB gC n n n nx rs _ _ _ hn1 HS.out qAA qC).mono ?_; rintro e wB ⟨rfl, b10⟩; obtain ⟨u0, u1⟩ := ((mB8d.keep b9).keep b10).two; obtain ⟨u2, u3⟩ := ((z8d.keep b9).keep b10).two))
  have bR : Below w7.heap.size w7 wB := ((Below.refl w7.heap.size w7).drew.trans b9).trans (b10.mono b9.size)
  have B9 := B8.trans (bR.mono B8.size)
  have z9 := z8.keep bR
  have gI9 := gI8.keep (by omega) bR
  have gS9 := gS8.keep (by omega) bR
  have qB9 := qB8.keep bR
  have jsB9 := jsB8.keep bR
  have mB9 := mB8.keep bR
  have zI9 := zI8.keep bR
  have zS9 := zS8.keep bR
  have hs9 := bR.size
  clear t0 t1 t2 t3 u0 u1 u2 u3 b9 b10 qC qAA q0 q1 p0 p1 r8 qB8d mB8d z8d gI8 gS8 qB8 jsB8 mB8 zI8 zS8 z8 bR
  obtain ⟨p0, p1⟩ := mB9.two
  go_wp2_with fail
  refine (CK.out wB gB Lo Hi jB qB9.cpd.1 apB (by omega) qB9.own jsB9.G).mono ?_
  rintro e w10 ⟨rfl, hTL⟩
  have hout := hTL.out
  have B10 : Below w.heap.size w w10 := Below.outs B9 hout (by omega) (Nat.le_refl _)
  have z10 := z9.outs hout (by omega)
  have gI10 := gI9.outs (by omega) hout (by omega)
  have gS10 := gS9.outs (by omega) hout (by omega)
  have zI10 := zI9.outs hout (by omega)
  have zS10 := zS9.outs hout (by omega)
  have hs10 := hout.size
  obtain ⟨qk, hqk⟩ : ∃ q, qAt 1 jB n = q := ⟨_, rfl⟩
  rw [hqk]
  have hqk0 : ¬ (qk : Int) < 0 := by omega
  obtain ⟨x0, x1, x2, x3, x4, x5⟩ := zS10.six
  obtain ⟨y0, y1, y2, y3, y4, y5⟩ := zI10.six
  clear z9 gI9 gS9 zI9 zS9 qB9 jsB9 mB9 hTL hout p0 p1 hqk apB
  go_wp2_with fail
  refine (CE.out w10 BI TI BS TS _ _ _ _ _ _ _ _ _ _ _ _ gI10 gS10).mono ?_
  rintro e w11 ⟨rfl, b11⟩
  have B11 := B10.trans (b11.mono B10.size)
  have z11 := z10.keep b11
  have gI11 := gI10.keep (by omega) b11
  have gS11 := gS10.keep (by omega) b11
  have zI11 := zI10.keep b11
  have zS11 := zS10.keep b11
  have hs11 := b11.size
  clear z10 gI10 gS10 zI10 zS10 b11 x0 x1 x2 x3 x4 x5 y0 y1 y2 y3 y4 y5
  obtain ⟨y0, y1, y2, y3, y4, y5⟩ := zI11.six
  go_wp2_with fail
  refine (CM.out w11 BI TI _ _ _ (by omega) gI11).mono ?_
  rintro e w12 ⟨rfl, mG, hout⟩
  have B12 : Below w.heap.size w w12 := Below.outs B11 hout (by omega) (Nat.le_refl _)
  have z12 := z11.outs hout (by omega)
  have gS12 := gS11.outs (by omega) hout (by omega)
  have zI12 := zI11.outs hout (by omega)
  have zS12 := zS11.outs hout (by omega)
  have hs12 := hout.size
  clear z11 gI11 gS11 zI11 zS11 hout y0 y1 y2 y3 y4 y5
  obtain ⟨mm, hmm⟩ : ∃ m, 1 + n1 + 2 * n2 + 2 * n3 = m := ⟨_, rfl⟩
  rw [hmm] at CH ⊢
  obtain ⟨y0, y1, y2, y3, y4, y5⟩ := zI12.six
  go_wp2_with fail
  refine (CH.out w12 BI TI _ _ _ (by omega) mG).mono ?_
  rintro e w13 ⟨rfl, b13⟩
  have B13 := B12.trans (b13.mono B12.size)
  have z13 := z12.keep b13
  have mG13 := mG.keep (by omega) b13
  have gS13 := gS12.keep (by omega) b13
  have zI13 := zI12.keep b13
  have zS13 := zS12.keep b13
  have hs13 := b13.size
  have hmm0 : ¬ (mm : Int) < 0 := by omega
  have hmme : ((mm : Int) != (mm : Int)) = false := by simp
  clear mG z12 gS12 zI12 zS12 b13 y0 y1 y2 y3 y4 y5
  obtain ⟨q0, q1⟩ := z13.two
  go_wp2_with fail
  refine (CA.out w13 (RdI.keep HRA.out B13)).mono ?_
  rintro e w14 ⟨gD, jD, rfl, qD, _, b14⟩
  have B14 := B13.trans (b14.mono B13.size)
  have mG14 := mG13.keep (by omega) b14
  have gS14 := gS13.keep (by omega) b14
  have zI14 := zI13.keep b14
  have zS14 := zS13.keep b14
  have hs14 := b14.size
  clear mG13 z13 gS13 zI13 zS13 b14 q0 q1
  go_wp2_with fail
  refine (CI.out w14 _ gD _ qD).mono ?_
  rintro e w15 ⟨r1, s1, r2, s2, r3, s3, rfl, gJ, b15⟩
  have B15 := B14.trans (b15.mono B14.size)
  have mG15 := mG14.keep (by omega) b15
  have gS15 := gS14.keep (by omega) b15
  have zI15 := zI14.keep b15
  have zS15 := zS14.keep b15
  have hs15 := b15.size
  have b15' : Below w15.heap.size w15 (w15.alloc (.cells #[.int .i64 i1, .int .i64 i2, .int .i64 i3, .slice r1 n1 s1, .slice r2 n2 s2, .slice r3 n3 s3] 27)) := (Below.refl _ w15).alloc (Nat.le_refl _) _
  have zS16 := zS15.keep b15'
  obtain ⟨x0, x1, x2, x3, x4, x5⟩ := zS16.six
  clear qD mG14 gS14 zI14 zS14 b15
  go_wp2_with fail
  obtain ⟨W15, hW15⟩ : ∃ W, w15.alloc (.cells #[.int .i64 i1, .int .i64 i2, .int .i64 i3, .slice r1 n1 s1, .slice r2 n2 s2, .slice r3 n3 s3] 27) = W := ⟨_, rfl⟩
  rw [hW15] at b15' ⊢
  clear hW15 x0 x1 x2 x3 x4 x5 zS16
  have gJ16 := gJ.keep (Nat.le_refl _) b15'
  have mG16 := mG15.keep (by omega) b15'
  have gS16 := gS15.keep (by omega) b15'
  have zI16 := zI15.keep b15'
  have B16 := B15.trans (b15'.mono B15.size)
  have hs16 := b15'.size
  clear gJ mG15 gS15 zI15 zS15 B15 b15'
  refine (CE.out W15 _ _ BS TS _ _ _ _ _ _ _ _ _ _ _ _ gJ16 gS16).mono ?_
  rintro e w17 ⟨rfl, b17⟩
  have B17 := B16.trans (b17.mono B16.size)
  have mG17 := mG16.keep (by omega) b17
  have zI17 := zI16.keep b17
  have hs17 := b17.size
  clear gJ16 gS16 mG16 zI16 b17
  obtain ⟨y0, y1, y2, y3, y4, y5⟩ := zI17.six
  go_wp2_with fail
  refine (CH.out w17 BI TI _ _ _ (by omega) mG17).mono ?_
  rintro e w18 ⟨rfl, b18⟩
  have B18 := B17.trans (b18.mono B17.size)
  clear mG17 zI17 b18 y0 y1 y2 y3 y4 y5
  go_wp2
  go_ret
  exact ⟨rfl, B18⟩

/-! ### THE ROW's STEP: WRITTEN OUT: LEAVE IT -/
set_option maxRecDepth 100000 in
theorem lifted (os : Os) (started : os.Started) (H : Type) (enc : TypeId × Value → H) :
    ReturnsInHanded {} Try.checked os 9 .any (Rows.fnExactInodeAtSpec.pre6 enc Try.prog Try.f9 Rows.fnExactInodeAtRow.domain false) (Rows.fnExactInodeAtSpec.post enc Try.prog Try.f9 false true false false) := by
  refine returnsInHanded_of_change (C := Try.checked) own started (by kernel_rfl) Try.func9
    (ChangeSpec.witness6 (enc := enc) (C := Try.checked) false ⟨#[], #[.agg #[.slice none 0 0, .int .i64 0], .int .i64 0], []⟩ 8 (by kernel_rfl) (by kernel_rfl) (by kernel_rfl) (by kernel_rfl)) ?_
  intro W base args ds gs before hval0 hW hcnd _
  have hval : ∀ (j : Nat) t v, Try.f9.params[j]? = some t → args[j]? = some v → Value.okWide Try.prog W .any base t v := hval0
  have hW' := hW
  obtain ⟨p, q, hA0, hV, rfl, hfz, hnd⟩ := hW
  have hA : DataW.TrodAll enc Try.prog W 0 (fun _ => true) true Try.f9.params.toList args.toList ds p := hA0
  rw [Try.params9] at hA hval
  obtain ⟨v0, vs0, d0, ds0, p0, q0, hargs, rfl, rfl, h0, r0⟩ := trodAll_cons hA
  obtain ⟨v1, vs1, d1, ds1, p1, q1, rfl, rfl, rfl, h1, r1⟩ := trodAll_cons r0
  obtain ⟨rfl, rfl, rfl⟩ := trodAll_nil r1
  obtain rfl : args = #[v0, v1] := by cases args; simp_all
  obtain ⟨rfl, rfl⟩ := trodVars_none hV
  have k0 := h0
  have lt0 : ∀ x ∈ p0, x.block < W.heap.size := by obtain ⟨m, hm⟩ := k0; exact DataW.trod_lt m _ _ _ hm
  obtain ⟨x0, c0, n0, rs0, rfl, wn0, m0, i0, w0⟩ := open_tab (hval 0 57 v0 rfl rfl) h0
  obtain ⟨s1, rfl, rfl, rfl, w1⟩ := open_int Try.underlying3 (hval 1 3 v1 rfl rfl) h1
  clear hA0 hval0
  refine (walk x0 c0 n0 rs0 s1 W m0 i0 w0 w1).mono fun e W' ⟨he, bel⟩ => ?_
  subst he
  exact ⟨_, rfl, _, _, _, [], _, [], hW', trodAll_mk1 (shut_bool Try.underlying4 _), (trodAll_cons_mk (Below.trod laidOut (by kernel_rfl) (of_decide_eq_true (by kernel_rfl)) k0 bel lt0) (trodAll_cons_mk (shut_int Try.underlying3 w1) trodAll_mk0)), rfl, bel.frame _, fun h => by cases h⟩

theorem over : Rows.fnExactInodeAtRow.holds Try.pinned (OpenSpec.ofChange Rows.fnExactInodeAtSpec) :=
  OpenClaim.holds_of_wide 9 Try.f9 rfl rfl rfl rfl rfl rfl rfl ⟨rfl, rfl, rfl, rfl, rfl⟩ rfl rfl rfl rfl rfl (by kernel_rfl) Try.func9 (by kernel_rfl)
    (of_decide_eq_true (by kernel_rfl)) (by unfold Func.isWrapper; first | (rw [if_pos (by decide +kernel)]; kernel_rfl) | (rw [if_neg (by decide +kernel)]; exact ⟨rfl, rfl⟩))
    (fun os started H enc _ => lifted os started H enc)

/-- ████ THE STATEMENT ████ -/
theorem proved : Rows.FnExactInodeAtSaid := over
#print axioms proved
end Go.Proofs.Ytnllhpeddoaehaa.fnExactInodeAt
