/-
  At every argument SetInode answers as the specification, field by field; it writes into no argument, and its answer owns its memory; no conditions.
  The frame is the one that the guide's own program writes for a law over one []byte, turned to this law's parameters.
-/
import Derived.Test.YtnllhpeddoaehaaRows
import Derived.Test.YtnllhpeddoaehaaTabW
import Derived.Test.YtnllhpeddoaehaaSetW
import Derived.WalkKit
import Derived.ProofKit
import Derived.OpenShut
import Derived.ShutString
import Derived.ChangeOld
import Derived.Below
namespace Go.Proofs.Ytnllhpeddoaehaa.fnExactSetInode
open Go.ChangeShapes Go.WideShapes Go.ChangeAt Go.RowKit
open Go.ChangeMaps (open_string shut_string)
set_option linter.unusedVariables false

theorem own : ownKnob Try.prog.godebug = none := by kernel_rfl
theorem laidOut : laidOutB Try.prog = true := by kernel_rfl

/-! ### STEP 1: THE WALK: the Go text returns true, AND WRITES NOTHING THAT WAS THERE: 'Below w.heap.size w w'' (Derived/Below.lean: '.refl', '.alloc', '.drew', '.setCell' at a new block, '.trans'). Open each 'IsRow' by 'rcases' AHEAD of 'go_enter'; part every test ahead of the walk. -/
set_option maxRecDepth 100000 in
set_option maxHeartbeats 16000000 in
theorem walk (a : Option Addr) (cap : Nat) (nx : Int) (rs : List InoR) (D : InoD) (xa1 : Option Addr) (xc1 : Nat) (xa2 : Option Addr) (xc2 : Nat) (xa3 : Option Addr) (xc3 : Nat) (w : World) (hm : rs.length ≤ maxLen) (hi : ∀ r ∈ rs, InoIn r.D) (hr : RdI w a rs) (hiX : InoIn D) (hrX : InoRd w D xa1 xa2 xa3) :
    Calls Try.prog 10 #[.agg #[.slice a rs.length cap, .int .i64 nx], inoV D xa1 xc1 xa2 xc2 xa3 xc3] w fun e w' => e = .returned (.bool true) ∧ Below w.heap.size w w' := by
  obtain ⟨n, hn⟩ : ∃ n, rs.length = n := ⟨_, rfl⟩
  rw [hn] at hm ⊢
  obtain ⟨r, rfl, rfl, rfl, rfl, rfl, rfl, rfl⟩ : ∃ r : InoR, r.D = D ∧ r.a1 = xa1 ∧ r.c1 = xc1 ∧ r.a2 = xa2 ∧ r.c2 = xc2 ∧ r.a3 = xa3 ∧ r.c3 = xc3 := ⟨⟨D, xa1, xc1, xa2, xc2, xa3, xc3⟩, rfl, rfl, rfl, rfl, rfl, rfl, rfl⟩
  have zb0 : ZB w ((w.alloc (.cells #[.slice a n cap, .int .i64 nx] 57)).alloc (.cells #[.int .i64 r.D.ino, .int .i64 r.D.kind, .int .i64 r.D.links, .slice r.a1 r.D.data.length r.c1, .slice r.a2 r.D.ents.length r.c2, .slice r.a3 r.D.attrs.length r.c3] 66)) #[.slice a n cap, .int .i64 nx] #[.int .i64 r.D.ino, .int .i64 r.D.kind, .int .i64 r.D.links, .slice r.a1 r.D.data.length r.c1, .slice r.a2 r.D.ents.length r.c2, .slice r.a3 r.D.attrs.length r.c3] := ⟨((Below.refl _ w).alloc (Nat.le_refl _) _).alloc (by simp) _, (Blk.new w _ _).alloc _, Blk.newAt (by simp)⟩
  have hszI := fun (v : Nat) (W : World) (hv : v ≤ 1048576) (h : InoRd W r.D r.a1 r.a2 r.a3) => szInode_w r.D r.a1 r.a2 r.a3 r.c1 r.c2 r.c3 v W hv hiX h
  unfold inoV at hszI ⊢
  go_enter Try.func10, Try.ntmps10
  go_wp2_with fail
  obtain ⟨W0, hW0⟩ : ∃ W, (w.alloc (.cells #[.slice a n cap, .int .i64 nx] 57)).alloc (.cells #[.int .i64 r.D.ino, .int .i64 r.D.kind, .int .i64 r.D.links, .slice r.a1 r.D.data.length r.c1, .slice r.a2 r.D.ents.length r.c2, .slice r.a3 r.D.attrs.length r.c3] 66) = W := ⟨_, rfl⟩
  rw [hW0] at zb0 ⊢
  clear hW0
  refine (szTab_w a n cap 1048576 nx rs W0 hn hm (by omega) hi (hr.keep zb0.below)).mono ?_
  rintro e w1 ⟨hsz, b1⟩
  have zb1 := zb0.keep b1
  clear zb0
  rcases hsz with rfl | ⟨v, hv, rfl, hn1, hsm⟩
  · go_wp2
    go_ret
    exact ⟨rfl, zb1.below⟩
  have hx0 : ¬ (v : Int) < 0 := by omega
  obtain ⟨p0, p1, p2, p3, p4, p5⟩ := zb1.x.six
  have hcI := hszI v w1 (by omega) (InoRd.keep hrX zb1.below)
  clear hszI
  go_wp2_with fail
  (with_reducible refine hcI.mono ?_)
  rintro e w1' ⟨hsz, b1'⟩
  have zb2 := zb1.keep b1'
  clear zb1 b1 b1' p0 p1 p2 p3 p4 p5 hcI
  rcases hsz with rfl | ⟨v', hv', rfl, hsx⟩
  · go_wp2
    go_ret
    exact ⟨rfl, zb2.below⟩
  have hx0' : ¬ (v' : Int) < 0 := by omega
  have hwf : ∀ r ∈ rs, (Lit.int .i64 r.D.ino).wf = true := fun r h => (hi r h).ino
  have hwx : (Lit.int .i64 r.D.ino).wf = true := hiX.ino
  have HS : Hid _ := hsm
  have HX : Hid _ := hsx
  have hcn : n + cntI rs + (r.D.data.length + r.D.ents.length + r.D.attrs.length) ≤ 1048576 := by omega
  have CA : Hid (∀ W : World, Below w.heap.size w W → _) := fun (W : World) (h : Below w.heap.size w W) => toTab_j a n cap nx rs W hn hn1 HS.out (hr.keep h)
  have CX : Hid (∀ W : World, Below w.heap.size w W → _) := fun (W : World) (h : Below w.heap.size w W) => toInode_g r.D r.a1 r.a2 r.a3 r.c1 r.c2 r.c3 W HX.out (InoRd.keep hrX h)
  have cS := fun (W : World) (B g : Nat) (ts : List InoR) (g1 g2 g3 : Nat) (h : TabQ W B g n rs ts) (hx : InoRd W r.D (some ⟨g1, 0, none⟩) (some ⟨g2, 0, none⟩) (some ⟨g3, 0, none⟩)) => setSQ (d1 := r.D.data.length) (d2 := r.D.ents.length) (d3 := r.D.attrs.length) nx r hn1 HS.out HX.out h hx
  have cI := fun (W : World) (B g : Nat) (ts : List InoR) (g1 g2 g3 : Nat) (h : TabQ W B g n rs ts) (hx : InoRd W r.D (some ⟨g1, 0, none⟩) (some ⟨g2, 0, none⟩) (some ⟨g3, 0, none⟩)) => setIQ (d1 := r.D.data.length) (d2 := r.D.ents.length) (d3 := r.D.attrs.length) nx r hn1 hwx hwf HS.out HX.out h hx
  have cK := fun (W : World) (g Lo Hi : Nat) (js : List InoJ) (h1 : (js.map InoJ.r).map InoR.D = rs.map InoR.D) (hap : ApJ g Lo Hi js) (hH : Hi ≤ W.heap.size) (hown : OwnI W g n n (js.map InoJ.r)) (hG : ∀ (i : Nat) (j : InoJ), js[i]? = some j → j.G W) => markTab_any nx g n n Lo Hi 1 js W (by have := congrArg List.length h1; simp at this; omega) (Nat.le_refl _) (by omega) (by have := q_bound4 h1 hn (by omega); omega) hap hH hown hG
  have cKb : ∀ js : List InoJ, (js.map InoJ.r).map InoR.D = rs.map InoR.D → qAt 1 js n ≤ 4000000 := fun js h1 => q_bound4 h1 hn (by omega)
  have hds := set_small HS.out HX.out (rs := rs) (r := r)
  have hdc := set_cnt rs r
  have hcr : cntI [r] = r.D.data.length + r.D.ents.length + r.D.attrs.length := by simp [cntI]
  rw [hn, hcr] at hdc
  unfold SetOut at cS cI
  generalize setR rs r = ds at cS cI hds hdc
  obtain ⟨m, hml⟩ : ∃ m, ds.length = m := ⟨_, rfl⟩
  rw [hml] at cS cI hdc
  have hmb : m ≤ 2000000 := by omega
  have cE : ∀ (W : World) (B B' : Nat) (a a' : Option Addr) (c c' : Nat) (js js' : List InoJ), DQA B W (.slice a m c) ds js → DQA B' W (.slice a' m c') ds js' → js.length = m → js'.length = m → Calls Try.prog 40 #[.agg #[.slice a m c, .int .i64 nx], .agg #[.slice a' m c', .int .i64 nx]] W fun e w' => e = .returned (.bool true) ∧ Below W.heap.size W w' := fun W B B' a a' c c' js js' h h' h1 h2 => eqVA nx (by omega) hds h h' h1 h2
  have cQ : ∀ (js : List InoJ) (W : World) (B : Nat) (v : Value), DQA B W v ds js → qAt 1 js m ≤ 9999990 := fun js W B v h => by have := q_bound4 h.ds hml (by omega); omega
  have hcx : r.D.data.length + r.D.ents.length + r.D.attrs.length ≤ 1048576 := by omega
  have CS : Hid _ := cS
  have CI : Hid _ := cI
  have CE : Hid _ := cE
  have CQ : Hid _ := cQ
  have CK : Hid _ := cK
  have CKB : Hid _ := cKb
  clear cS cI cE cQ cK cKb hr hrX hn hsm hsx hwf hwx hi hiX hm hv hv' hcn hds hdc hml hcr
  have t0 := zb2.t.cell 0
  have t1 := zb2.t.cell 1
  simp at t0 t1
  obtain ⟨p0, p1, p2, p3, p4, p5⟩ := zb2.x.six
  go_upto_region 8 with fail
  go_cut [6] (fun s wx => CutS w1' wx m nx ds s)
  case first =>
    have bR : Below w1'.heap.size w1' w1' := Below.refl _ w1'
    have hzl := zb2.x.lt
    have HZB : Hid _ := zb2
    have nqA0 : ¬ w.heap.size = w1'.heap.size := (by omega); have nqA1 : ¬ w1'.heap.size = w.heap.size := (by omega); have nqA2 : ¬ w.heap.size + 1 = w1'.heap.size := (by omega); have nqA3 : ¬ w1'.heap.size = w.heap.size + 1 := (by omega)
    go_region_held3 (fun W : World => W.cell? ⟨w.heap.size, 0, none⟩ = some (.slice a n cap) ∧ W.cell? ⟨w.heap.size, 1, none⟩ = some (.int .i64 nx) ∧ W.cell? ⟨w.heap.size + 1, 0, none⟩ = some (.int .i64 r.D.ino) ∧ W.cell? ⟨w.heap.size + 1, 1, none⟩ = some (.int .i64 r.D.kind) ∧ W.cell? ⟨w.heap.size + 1, 2, none⟩ = some (.int .i64 r.D.links) ∧ W.cell? ⟨w.heap.size + 1, 3, none⟩ = some (.slice r.a1 r.D.data.length r.c1) ∧ W.cell? ⟨w.heap.size + 1, 4, none⟩ = some (.slice r.a2 r.D.ents.length r.c2) ∧ W.cell? ⟨w.heap.size + 1, 5, none⟩ = some (.slice r.a3 r.D.attrs.length r.c3)) (go_keep) (first
      | (go_at_call 45; (with_reducible refine (CA.out _ (HZB.out.keep (by first | with_reducible exact bR.drew | with_reducible exact (below_al bR _).drew)).below).mono ?_); rintro e v1 ⟨gA, jA, rfl, qA, _, e1⟩; have E1 : Below w1'.heap.size w1' v1 := below_tr (by first | with_reducible exact bR.drew | with_reducible exact (below_al bR _).drew) e1; have zv := HZB.out.keep E1; have q0a := zv.t.cell 0; have q1a := zv.t.cell 1; (simp at q0a q1a); obtain ⟨p0a, p1a, p2a, p3a, p4a, p5a⟩ := zv.x.six; have hs1 := E1.size; (first | (with_reducible (have kT : Blk v1 w1'.heap.size 43 #[.slice none 0 0, .int .i64 0] := Blk.keep (W := (w1'.alloc (.cells #[.slice none 0 0, .int .i64 0] 43)).drew) (Blk.drew (Blk.newAt rfl)) e1)) | skip); have nqB0 : ¬ w.heap.size = v1.heap.size := (by omega); have nqB1 : ¬ v1.heap.size = w.heap.size := (by omega); have nqB2 : ¬ w.heap.size + 1 = v1.heap.size := (by omega); have nqB3 : ¬ v1.heap.size = w.heap.size + 1 := (by omega))
      | (go_at_call 49; (with_reducible refine (CX.out _ (HZB.out.keep (by first | with_reducible exact E1 | with_reducible exact below_al E1 _)).below).mono ?_); rintro e v2 ⟨y1, y2, y3, rfl, gX, e2⟩; have F2 : Below v1.heap.size v1 v2 := below_tr (by first | with_reducible exact Below.refl _ v1 | with_reducible exact below_al (Below.refl _ v1) _) e2; have E2 := below_tr E1 F2; have zv := HZB.out.keep E2; have qA := qA.keep F2; have hxr := inoG_rd gX; have q0b := zv.t.cell 0; have q1b := zv.t.cell 1; (simp at q0b q1b); obtain ⟨p0b, p1b, p2b, p3b, p4b, p5b⟩ := zv.x.six; have hs2 := F2.size; (try (have kT := kT.keep F2)); (first | (with_reducible (have kT : Blk v2 v1.heap.size 43 #[.slice none 0 0, .int .i64 0] := Blk.keep (W := v1.alloc (.cells #[.slice none 0 0, .int .i64 0] 43)) (Blk.newAt rfl) e2)) | skip); (try (have kl2 := kT.lt)); have nqC0 : ¬ w.heap.size = v2.heap.size := (by omega); have nqC1 : ¬ v2.heap.size = w.heap.size := (by omega); have nqC2 : ¬ w.heap.size + 1 = v2.heap.size := (by omega); have nqC3 : ¬ v2.heap.size = w.heap.size + 1 := (by omega))
      | (go_at_call 31; (with_reducible refine (CS.out _ _ gA _ y1 y2 y3 (by first | with_reducible exact qA | with_reducible exact qA.keep (below_al (Below.refl _ v2) _)) (by first | with_reducible exact hxr | with_reducible exact InoRd.keep hxr (below_al (Below.refl _ v2) _))).mono ?_); rintro e v3 ⟨aS, cS, jS, rfl, gS, hjS, e3⟩; have F3 : Below v2.heap.size v2 v3 := below_tr (by first | with_reducible exact Below.refl _ v2 | with_reducible exact below_al (Below.refl _ v2) _) e3; have E3 := below_tr E2 F3; have zv := HZB.out.keep E3; have q0c := zv.t.cell 0; have q1c := zv.t.cell 1; (simp at q0c q1c); obtain ⟨p0c, p1c, p2c, p3c, p4c, p5c⟩ := zv.x.six; have hs3 := F3.size; have hs3' := e3.size; (try (have kT := kT.keep F3)); (first | (with_reducible (have kT : Blk v3 v2.heap.size 43 #[.slice none 0 0, .int .i64 0] := Blk.keep (W := v2.alloc (.cells #[.slice none 0 0, .int .i64 0] 43)) (Blk.newAt rfl) e3)) | skip); have nqD0 : ¬ w.heap.size = v3.heap.size := (by omega); have nqD1 : ¬ v3.heap.size = w.heap.size := (by omega); have nqD2 : ¬ w.heap.size + 1 = v3.heap.size := (by omega); have nqD3 : ¬ v3.heap.size = w.heap.size + 1 := (by omega); (try (have kl := kT.lt; have k0 := kT.cell 0; have k1 := kT.cell 1; (simp at k0 k1); have kf0 := kT.frozen 0; have kf1 := kT.frozen 1)))
      | fail)
    all_goals (go_wp2_with fail; go_meet; first | with_reducible exact cutS_new E3 gS hjS | with_reducible exact cutS_set E3 gS hjS kT (by omega) (by (try simp) <;> omega) | fail)
  case rest =>
  obtain ⟨TS, BS, aS, eS, jS, rfl, qs1, bS⟩ := hcut
  obtain ⟨W3, hwc⟩ : ∃ W, W = wc := ⟨_, rfl⟩
  subst hwc
  have zb3 := zb2.keep bS
  clear zb2 bS t0 t1 p0 p1 p2 p3 p4 p5
  have HZL : Hid (w.heap.size + 2 ≤ W3.heap.size) := zb3.x.lt
  have t0 := zb3.t.cell 0
  have t1 := zb3.t.cell 1
  simp at t0 t1
  obtain ⟨p0, p1, p2, p3, p4, p5⟩ := zb3.x.six
  go_wp2_with fail
  (with_reducible refine (CA.out W3 zb3.below).mono ?_)
  rintro e w4 ⟨gB, jB, rfl, qB, jsB, b4⟩
  have b4' : Below w4.heap.size w4 (w4.alloc (.cells #[.slice (some ⟨gB, 0, none⟩) n n, .int .i64 nx] 43)) := (Below.refl _ w4).alloc (Nat.le_refl _) _
  have bb4 := below_tr b4 b4'
  have hs4 := b4.size
  have qt4 : QT (w4.alloc (.cells #[.slice (some ⟨gB, 0, none⟩) n n, .int .i64 nx] 43)) w4.heap.size W3.heap.size gB n W3.heap.size w4.heap.size nx rs jB := ⟨Blk.new w4 _ _, qB.keep b4', jsB.keep b4', jsB.ap (Nat.lt_succ_self _) qB.at_ qB.own.lt, Nat.le_refl _⟩
  have zb4 := zb3.keep bb4
  have qs4 := qs1.keep bb4
  have hU := qs1.tT
  have hs4' : w4.heap.size + 1 ≤ (w4.alloc (.cells #[.slice (some ⟨gB, 0, none⟩) n n, .int .i64 nx] 43)).heap.size := by simp
  clear zb3 qs1 b4 b4' bb4 qB jsB t0 t1 p0 p1 p2 p3 p4 p5
  go_upto_region 10 with fail
  obtain ⟨W4, hW4⟩ : ∃ W, w4.alloc (.cells #[.slice (some ⟨gB, 0, none⟩) n n, .int .i64 nx] 43) = W := ⟨_, rfl⟩
  obtain ⟨XB, hXB⟩ : ∃ X, w4.heap.size = X := ⟨_, rfl⟩
  obtain ⟨Lo, hLo⟩ : ∃ X, W3.heap.size = X := ⟨_, rfl⟩
  rw [hW4] at qt4 zb4 qs4 hs4' ⊢
  rw [hXB] at qt4 hs4 hs4' ⊢
  rw [hLo] at qt4 qs4 hs4 hU
  clear hW4 hXB
  have t0 := zb4.t.cell 0
  have t1 := zb4.t.cell 1
  simp at t0 t1
  obtain ⟨p0, p1, p2, p3, p4, p5⟩ := zb4.x.six
  go_wp2_with fail
  (with_reducible refine (CX.out W4 zb4.below).mono ?_)
  rintro e w5 ⟨y1, y2, y3, rfl, gX, b5⟩
  have b5' : Below w5.heap.size w5 (w5.alloc (.cells #[.int .i64 r.D.ino, .int .i64 r.D.kind, .int .i64 r.D.links, .slice (some ⟨y1, 0, none⟩) r.D.data.length r.D.data.length, .slice (some ⟨y2, 0, none⟩) r.D.ents.length r.D.ents.length, .slice (some ⟨y3, 0, none⟩) r.D.attrs.length r.D.attrs.length] 27)) := (Below.refl _ w5).alloc (Nat.le_refl _) _
  have bb5 := below_tr b5 b5'
  have hs5 := b5.size
  have qx5 : QX (w5.alloc (.cells #[.int .i64 r.D.ino, .int .i64 r.D.kind, .int .i64 r.D.links, .slice (some ⟨y1, 0, none⟩) r.D.data.length r.D.data.length, .slice (some ⟨y2, 0, none⟩) r.D.ents.length r.D.ents.length, .slice (some ⟨y3, 0, none⟩) r.D.attrs.length r.D.attrs.length] 27)) w5.heap.size W4.heap.size w5.heap.size r.D y1 y2 y3 := ⟨Blk.new w5 _ _, InoG.keep gX (Nat.le_refl _) b5', Nat.le_refl _⟩
  have zb5 := zb4.keep bb5
  have qs5 := qs4.keep bb5
  have qt5 := qt4.keep bb5
  have hs5' : w5.heap.size + 1 ≤ (w5.alloc (.cells #[.int .i64 r.D.ino, .int .i64 r.D.kind, .int .i64 r.D.links, .slice (some ⟨y1, 0, none⟩) r.D.data.length r.D.data.length, .slice (some ⟨y2, 0, none⟩) r.D.ents.length r.D.ents.length, .slice (some ⟨y3, 0, none⟩) r.D.attrs.length r.D.attrs.length] 27)).heap.size := by simp
  clear zb4 qs4 qt4 b5 b5' bb5 gX t0 t1 p0 p1 p2 p3 p4 p5
  go_upto_region 11 with fail
  obtain ⟨W5, hW5⟩ : ∃ W, w5.alloc (.cells #[.int .i64 r.D.ino, .int .i64 r.D.kind, .int .i64 r.D.links, .slice (some ⟨y1, 0, none⟩) r.D.data.length r.D.data.length, .slice (some ⟨y2, 0, none⟩) r.D.ents.length r.D.ents.length, .slice (some ⟨y3, 0, none⟩) r.D.attrs.length r.D.attrs.length] 27) = W := ⟨_, rfl⟩
  obtain ⟨XX, hXX⟩ : ∃ X, w5.heap.size = X := ⟨_, rfl⟩
  obtain ⟨lo, hlo⟩ : ∃ X, W4.heap.size = X := ⟨_, rfl⟩
  rw [hW5] at qx5 zb5 qs5 qt5 hs5' ⊢
  rw [hXX] at qx5 hs5 hs5' ⊢
  rw [hlo] at qx5 hs5 hs4'
  clear hW5 hXX
  obtain ⟨u0, u1⟩ := qt5.two
  obtain ⟨v0, v1, v2, v3, v4, v5⟩ := qx5.box.six
  have hcI := CI.out W5 _ gB _ y1 y2 y3 qt5.tq (inoG_rd qx5.G)
  go_wp2_with fail
  (with_reducible refine hcI.mono ?_)
  rintro e w6 ⟨aI, eI, jI, rfl, gI, hjI, b6⟩
  have b6' : Below w6.heap.size w6 (w6.alloc (.cells #[.slice aI m eI, .int .i64 nx] 43)) := (Below.refl _ w6).alloc (Nat.le_refl _) _
  have bb6 := below_tr b6 b6'
  have hs6 := b6.size
  have qi6 : QS (w6.alloc (.cells #[.slice aI m eI, .int .i64 nx] 43)) w6.heap.size W5.heap.size w6.heap.size (w6.heap.size + 1) aI m eI nx ds jI := ⟨Blk.new w6 _ _, gI.keep b6', hjI, gI.apV, by omega, by omega, by simp⟩
  have zb6 := zb5.keep bb6
  have qs6 := qs5.keep bb6
  have qt6 := qt5.keep bb6
  have qx6 := qx5.keep bb6
  clear zb5 qs5 qt5 qx5 b6 b6' bb6 gI u0 u1 v0 v1 v2 v3 v4 v5 hcI
  go_upto_region 12 with fail
  obtain ⟨W6, hW6⟩ : ∃ W, w6.alloc (.cells #[.slice aI m eI, .int .i64 nx] 43) = W := ⟨_, rfl⟩
  obtain ⟨TI, hTI⟩ : ∃ X, w6.heap.size = X := ⟨_, rfl⟩
  obtain ⟨BI, hBI⟩ : ∃ X, W5.heap.size = X := ⟨_, rfl⟩
  rw [hW6] at qi6 zb6 qs6 qt6 qx6 ⊢
  rw [hTI] at qi6 hs6 ⊢
  rw [hBI] at qi6 hs6 hs5'
  clear hW6 hTI
  obtain ⟨u0, u1⟩ := qi6.two
  obtain ⟨v0, v1⟩ := qs6.two
  go_wp2_with fail
  (with_reducible refine (CE.out W6 BI BS _ _ _ _ jI jS qi6.q qs6.q qi6.len qs6.len).mono ?_)
  rintro e w7 ⟨rfl, b7⟩
  have zb7 := zb6.keep b7
  have qs7 := qs6.keep b7
  have qt7 := qt6.keep b7
  have qx7 := qx6.keep b7
  have qi7 := qi6.keep b7
  clear zb6 qs6 qt6 qx6 qi6 b7 u0 u1 v0 v1
  have t0 := zb7.t.cell 0
  have t1 := zb7.t.cell 1
  simp at t0 t1
  obtain ⟨p0, p1, p2, p3, p4, p5⟩ := zb7.x.six
  obtain ⟨u0, u1⟩ := qt7.two
  have zb7d := zb7.keep (Below.refl w7.heap.size w7).drew
  have qt7d := qt7.keep (Below.refl w7.heap.size w7).drew
  go_upto_region 14 with fail
  go_region_held3 (fun W : World => W.cell? ⟨XB, 0, none⟩ = some (.slice (some ⟨gB, 0, none⟩) n n) ∧ W.cell? ⟨XB, 1, none⟩ = some (.int .i64 nx) ∧ W.cell? ⟨w.heap.size, 0, none⟩ = some (.slice a n cap) ∧ W.cell? ⟨w.heap.size, 1, none⟩ = some (.int .i64 nx)) (go_keep) (first
    | (go_at_call 45; (with_reducible refine (CA.out _ zb7d.below).mono ?_); rintro e wA ⟨gC, jC, rfl, qC, _, b9⟩; have qAA := (qt7d.keep b9).tq; obtain ⟨s0, s1⟩ := (qt7d.keep b9).two; have s2 := (zb7d.keep b9).t.cell 0; have s3 := (zb7d.keep b9).t.cell 1; (simp at s2 s3))
    | (go_at_call 40; (with_reducible refine (eqTabQ _ _ gB gC n n n nx rs _ _ _ hn1 HS.out qAA qC).mono ?_); rintro e wB ⟨rfl, b10⟩; obtain ⟨s4, s5⟩ := ((qt7d.keep b9).keep b10).two; have s6 := ((zb7d.keep b9).keep b10).t.cell 0; have s7 := ((zb7d.keep b9).keep b10).t.cell 1; (simp at s6 s7))
    | fail)
  have bR : Below w7.heap.size w7 wB := below_tr (below_tr (Below.refl w7.heap.size w7).drew b9) b10
  have zb8 := zb7.keep bR
  have qs8 := qs7.keep bR
  have qt8 := qt7.keep bR
  have qx8 := qx7.keep bR
  have qi8 := qi7.keep bR
  clear zb7 qs7 qt7 qx7 qi7 bR b9 b10 zb7d qt7d qC qAA s0 s1 s2 s3 s4 s5 s6 s7 u0 u1 t0 t1 p0 p1 p2 p3 p4 p5
  have t0 := zb8.t.cell 0
  have t1 := zb8.t.cell 1
  simp at t0 t1
  obtain ⟨p0, p1, p2, p3, p4, p5⟩ := zb8.x.six
  obtain ⟨v0, v1, v2, v3, v4, v5⟩ := qx8.box.six
  have zb8d := zb8.keep (Below.refl wB.heap.size wB).drew
  have qx8d := qx8.keep (Below.refl wB.heap.size wB).drew
  go_upto_region 16 with fail
  go_region_held3 (fun W : World => W.cell? ⟨XX, 0, none⟩ = some (.int .i64 r.D.ino) ∧ W.cell? ⟨XX, 1, none⟩ = some (.int .i64 r.D.kind) ∧ W.cell? ⟨XX, 2, none⟩ = some (.int .i64 r.D.links) ∧ W.cell? ⟨XX, 3, none⟩ = some (.slice (some ⟨y1, 0, none⟩) r.D.data.length r.D.data.length) ∧ W.cell? ⟨XX, 4, none⟩ = some (.slice (some ⟨y2, 0, none⟩) r.D.ents.length r.D.ents.length) ∧ W.cell? ⟨XX, 5, none⟩ = some (.slice (some ⟨y3, 0, none⟩) r.D.attrs.length r.D.attrs.length) ∧ W.cell? ⟨w.heap.size + 1, 0, none⟩ = some (.int .i64 r.D.ino) ∧ W.cell? ⟨w.heap.size + 1, 1, none⟩ = some (.int .i64 r.D.kind) ∧ W.cell? ⟨w.heap.size + 1, 2, none⟩ = some (.int .i64 r.D.links) ∧ W.cell? ⟨w.heap.size + 1, 3, none⟩ = some (.slice r.a1 r.D.data.length r.c1) ∧ W.cell? ⟨w.heap.size + 1, 4, none⟩ = some (.slice r.a2 r.D.ents.length r.c2) ∧ W.cell? ⟨w.heap.size + 1, 5, none⟩ = some (.slice r.a3 r.D.attrs.length r.c3)) (go_keep) (first
    | (go_at_call 49; (with_reducible refine (CX.out _ zb8d.below).mono ?_); rintro e wC ⟨z1, z2, z3, rfl, gZ, b11⟩; have qxC := qx8d.keep b11; obtain ⟨s0, s1, s2, s3, s4, s5⟩ := qxC.box.six; obtain ⟨s6, s7, s8, s9, s10, s11⟩ := (zb8d.keep b11).x.six)
    | (go_at_call 33; (with_reducible refine (eqInoG HX.out qxC.G gZ).mono ?_); rintro e wD ⟨rfl, b12⟩; obtain ⟨s12, s13, s14, s15, s16, s17⟩ := (qxC.keep b12).box.six; obtain ⟨s18, s19, s20, s21, s22, s23⟩ := ((zb8d.keep b11).keep b12).x.six)
    | fail)
  have bR : Below wB.heap.size wB wD := below_tr (below_tr (Below.refl wB.heap.size wB).drew b11) b12
  have zb9 := zb8.keep bR
  have qs9 := qs8.keep bR
  have qt9 := qt8.keep bR
  have qx9 := qx8.keep bR
  have qi9 := qi8.keep bR
  clear zb8 qs8 qt8 qx8 qi8 bR b11 b12 zb8d qx8d gZ qxC s0 s1 s2 s3 s4 s5 s6 s7 s8 s9 s10 s11 s12 s13 s14 s15 s16 s17 s18 s19 s20 s21 s22 s23 v0 v1 v2 v3 v4 v5 t0 t1 p0 p1 p2 p3 p4 p5
  obtain ⟨u0, u1⟩ := qt9.two
  have hXBl := qt9.box.lt
  have hzl := zb9.x.lt
  have hqi := qi9.tT
  have hcp := qt9.tq.cpd.1
  have hqB := CKB.out jB hcp
  go_wp2_with fail
  refine (CK.out wD gB Lo XB jB hcp qt9.ap (by omega) qt9.tq.own qt9.jq.G).mono ?_
  rintro e w10 ⟨rfl, hTL⟩
  have hout := hTL.out
  have hs10 := hout.size
  have hbs : w.heap.size + 2 ≤ Lo := by have := zb9.x.lt; rw [← hLo]; exact HZL.out
  have zb10 := zb9.outs hout hbs
  have qs10 := qs9.outs hout (by omega)
  have qx10 := qx9.outs hout (by omega) (by omega)
  have qi10 := qi9.outsHi hout (by omega) (by omega)
  obtain ⟨qk, hqk⟩ : ∃ q, qAt 1 jB n = q := ⟨_, rfl⟩
  have hqk1 : 1 ≤ qk := by rw [← hqk]; unfold qAt; omega
  rw [hqk] at hqB ⊢
  clear zb9 qs9 qt9 qx9 qi9 hTL hout u0 u1 hqk
  obtain ⟨v0, v1, v2, v3, v4, v5⟩ := qx10.box.six
  have hXXl := qx10.box.lt
  have hcM := markInoG r.D.ino r.D.kind r.D.links lo XX qk r.D _ _ _ w10 _ _ _ rfl rfl rfl hqk1 (by omega) (by omega) qx10.G
  go_wp2_with fail
  (with_reducible refine hcM.mono ?_)
  rintro e w11 ⟨rfl, _, hout⟩
  have hs11 := hout.size
  have zb11 := zb10.outs hout (by omega)
  have qs11 := qs10.outs hout (by omega)
  have qi11 := qi10.outsHi hout (by omega) (by omega)
  obtain ⟨qm, hqm⟩ : ∃ q, qk + r.D.data.length + 2 * r.D.ents.length + 2 * r.D.attrs.length = q := ⟨_, rfl⟩
  rw [hqm]
  have hqm0 : ¬ (qm : Int) < 0 := by omega
  clear zb10 qs10 qx10 qi10 hout v0 v1 v2 v3 v4 v5 hcM hqm hqB hqk1
  obtain ⟨u0, u1⟩ := qi11.two
  obtain ⟨v0, v1⟩ := qs11.two
  go_wp2_with fail
  (with_reducible refine (CE.out w11 BI BS _ _ _ _ jI jS qi11.q qs11.q qi11.len qs11.len).mono ?_)
  rintro e w11b ⟨rfl, b11⟩
  have zb11b := zb11.keep b11
  have qs11b := qs11.keep b11
  have qi11b := qi11.keep b11
  clear zb11 qs11 qi11 b11 u0 u1 v0 v1
  obtain ⟨u0, u1⟩ := qi11b.two
  have hqI := CQ.out jI _ _ _ qi11b.q
  have hIl := qi11b.box.lt
  go_wp2_with fail
  (with_reducible refine (markVA (T := TI) nx hmb hqI qi11b.q qi11b.len (by omega) qi11b.ap).mono ?_)
  rintro e w11c ⟨rfl, mG, hout⟩
  have hs11c := hout.size
  have zb11c := zb11b.outs hout (by omega)
  have qs11c := qs11b.outs hout (by omega)
  have xI := qi11b.box.outs hout (by omega)
  have cH : ∀ W : World, TI ≤ W.heap.size → TV W BI TI aI m eI jI → _ := fun W hT h => heldV nx hmb hqI qi11b.len hT h
  obtain ⟨mm, hmm⟩ : ∃ q, qAt 1 jI m = q := ⟨_, rfl⟩
  rw [hmm] at cH ⊢
  have CH : Hid _ := cH
  clear zb11b qs11b qi11b hout u0 u1 cH hqI hmm
  have u0 := xI.cell 0
  have u1 := xI.cell 1
  simp at u0 u1
  go_wp2_with fail
  (with_reducible refine (CH.out w11c (by omega) mG).mono ?_)
  rintro e w12 ⟨rfl, b13⟩
  have zb12 := zb11c.keep b13
  have qs12 := qs11c.keep b13
  have mG12 := mG.keep (by omega) b13
  have xI12 := xI.keep b13
  have hs12 := b13.size
  have hmm0 : ¬ (mm : Int) < 0 := by omega
  have hmme : ((mm : Int) != (mm : Int)) = false := by simp
  clear zb11c qs11c mG xI b13 u0 u1
  have t0 := zb12.t.cell 0
  have t1 := zb12.t.cell 1
  simp at t0 t1
  obtain ⟨p0, p1, p2, p3, p4, p5⟩ := zb12.x.six
  go_upto_region 31 with fail
  go_cut [13] (fun s wx => CutS w12 wx m nx ds s)
  case first =>
    have bR : Below w12.heap.size w12 w12 := Below.refl _ w12
    have hzl := zb12.x.lt
    have HZB : Hid _ := zb12
    have nqA0 : ¬ w.heap.size = w12.heap.size := (by omega); have nqA1 : ¬ w12.heap.size = w.heap.size := (by omega); have nqA2 : ¬ w.heap.size + 1 = w12.heap.size := (by omega); have nqA3 : ¬ w12.heap.size = w.heap.size + 1 := (by omega)
    go_region_held3 (fun W : World => W.cell? ⟨w.heap.size, 0, none⟩ = some (.slice a n cap) ∧ W.cell? ⟨w.heap.size, 1, none⟩ = some (.int .i64 nx) ∧ W.cell? ⟨w.heap.size + 1, 0, none⟩ = some (.int .i64 r.D.ino) ∧ W.cell? ⟨w.heap.size + 1, 1, none⟩ = some (.int .i64 r.D.kind) ∧ W.cell? ⟨w.heap.size + 1, 2, none⟩ = some (.int .i64 r.D.links) ∧ W.cell? ⟨w.heap.size + 1, 3, none⟩ = some (.slice r.a1 r.D.data.length r.c1) ∧ W.cell? ⟨w.heap.size + 1, 4, none⟩ = some (.slice r.a2 r.D.ents.length r.c2) ∧ W.cell? ⟨w.heap.size + 1, 5, none⟩ = some (.slice r.a3 r.D.attrs.length r.c3)) (go_keep) (first
      | (go_at_call 45; (with_reducible refine (CA.out _ (HZB.out.keep (by first | with_reducible exact bR.drew | with_reducible exact (below_al bR _).drew)).below).mono ?_); rintro e v1 ⟨gA, jA, rfl, qA, _, e1⟩; have E1 : Below w12.heap.size w12 v1 := below_tr (by first | with_reducible exact bR.drew | with_reducible exact (below_al bR _).drew) e1; have zv := HZB.out.keep E1; have q0a := zv.t.cell 0; have q1a := zv.t.cell 1; (simp at q0a q1a); obtain ⟨p0a, p1a, p2a, p3a, p4a, p5a⟩ := zv.x.six; have hs1 := E1.size; (first | (with_reducible (have kT : Blk v1 w12.heap.size 43 #[.slice none 0 0, .int .i64 0] := Blk.keep (W := (w12.alloc (.cells #[.slice none 0 0, .int .i64 0] 43)).drew) (Blk.drew (Blk.newAt rfl)) e1)) | skip); have nqB0 : ¬ w.heap.size = v1.heap.size := (by omega); have nqB1 : ¬ v1.heap.size = w.heap.size := (by omega); have nqB2 : ¬ w.heap.size + 1 = v1.heap.size := (by omega); have nqB3 : ¬ v1.heap.size = w.heap.size + 1 := (by omega))
      | (go_at_call 49; (with_reducible refine (CX.out _ (HZB.out.keep (by first | with_reducible exact E1 | with_reducible exact below_al E1 _)).below).mono ?_); rintro e v2 ⟨y1, y2, y3, rfl, gX, e2⟩; have F2 : Below v1.heap.size v1 v2 := below_tr (by first | with_reducible exact Below.refl _ v1 | with_reducible exact below_al (Below.refl _ v1) _) e2; have E2 := below_tr E1 F2; have zv := HZB.out.keep E2; have qA := qA.keep F2; have hxr := inoG_rd gX; have q0b := zv.t.cell 0; have q1b := zv.t.cell 1; (simp at q0b q1b); obtain ⟨p0b, p1b, p2b, p3b, p4b, p5b⟩ := zv.x.six; have hs2 := F2.size; (try (have kT := kT.keep F2)); (first | (with_reducible (have kT : Blk v2 v1.heap.size 43 #[.slice none 0 0, .int .i64 0] := Blk.keep (W := v1.alloc (.cells #[.slice none 0 0, .int .i64 0] 43)) (Blk.newAt rfl) e2)) | skip); (try (have kl2 := kT.lt)); have nqC0 : ¬ w.heap.size = v2.heap.size := (by omega); have nqC1 : ¬ v2.heap.size = w.heap.size := (by omega); have nqC2 : ¬ w.heap.size + 1 = v2.heap.size := (by omega); have nqC3 : ¬ v2.heap.size = w.heap.size + 1 := (by omega))
      | (go_at_call 27; (with_reducible refine (CI.out _ _ gA _ y1 y2 y3 (by first | with_reducible exact qA | with_reducible exact qA.keep (below_al (Below.refl _ v2) _)) (by first | with_reducible exact hxr | with_reducible exact InoRd.keep hxr (below_al (Below.refl _ v2) _))).mono ?_); rintro e v3 ⟨aS, cS, jS, rfl, gS, hjS, e3⟩; have F3 : Below v2.heap.size v2 v3 := below_tr (by first | with_reducible exact Below.refl _ v2 | with_reducible exact below_al (Below.refl _ v2) _) e3; have E3 := below_tr E2 F3; have zv := HZB.out.keep E3; have q0c := zv.t.cell 0; have q1c := zv.t.cell 1; (simp at q0c q1c); obtain ⟨p0c, p1c, p2c, p3c, p4c, p5c⟩ := zv.x.six; have hs3 := F3.size; have hs3' := e3.size; (try (have kT := kT.keep F3)); (first | (with_reducible (have kT : Blk v3 v2.heap.size 43 #[.slice none 0 0, .int .i64 0] := Blk.keep (W := v2.alloc (.cells #[.slice none 0 0, .int .i64 0] 43)) (Blk.newAt rfl) e3)) | skip); have nqD0 : ¬ w.heap.size = v3.heap.size := (by omega); have nqD1 : ¬ v3.heap.size = w.heap.size := (by omega); have nqD2 : ¬ w.heap.size + 1 = v3.heap.size := (by omega); have nqD3 : ¬ v3.heap.size = w.heap.size + 1 := (by omega); (try (have kl := kT.lt; have k0 := kT.cell 0; have k1 := kT.cell 1; (simp at k0 k1); have kf0 := kT.frozen 0; have kf1 := kT.frozen 1)))
      | fail)
    all_goals (go_wp2_with fail; go_meet; first | with_reducible exact cutS_new E3 gS hjS | with_reducible exact cutS_set E3 gS hjS kT (by omega) (by (try simp) <;> omega) | fail)
  case rest =>
  obtain ⟨TJ, BJ, aJ, eJ, jJ, rfl, qj, bJ⟩ := hcut
  obtain ⟨W13, hwc⟩ : ∃ W, W = wc := ⟨_, rfl⟩
  subst hwc
  have zb13 := zb12.keep bJ
  have qs13 := qs12.keep bJ
  have mG13 := mG12.keep (by omega) bJ
  have xI13 := xI12.keep bJ
  have hs13 := bJ.size
  clear zb12 qs12 mG12 xI12 bJ t0 t1 p0 p1 p2 p3 p4 p5
  obtain ⟨u0, u1⟩ := qj.two
  obtain ⟨v0, v1⟩ := qs13.two
  go_wp2_with fail
  (with_reducible refine (CE.out W13 BJ BS _ _ _ _ jJ jS qj.q qs13.q qj.len qs13.len).mono ?_)
  rintro e w14 ⟨rfl, b14⟩
  have zb14 := zb13.keep b14
  have mG14 := mG13.keep (by omega) b14
  have xI14 := xI13.keep b14
  have hs14 := b14.size
  clear zb13 qs13 qj mG13 xI13 b14 u0 u1 v0 v1
  have u0 := xI14.cell 0
  have u1 := xI14.cell 1
  simp at u0 u1
  go_wp2_with fail
  (with_reducible refine (CH.out w14 (by omega) mG14).mono ?_)
  rintro e w15 ⟨rfl, b15⟩
  have zb15 := zb14.keep b15
  clear zb14 mG14 xI14 b15 u0 u1
  go_wp2
  go_ret
  exact ⟨rfl, zb15.below⟩

/-! ### THE ROW's STEP: WRITTEN OUT: LEAVE IT -/
set_option maxRecDepth 100000 in
theorem lifted (os : Os) (started : os.Started) (H : Type) (enc : TypeId × Value → H) :
    ReturnsInHanded {} Try.checked os 10 .any (Rows.fnExactSetInodeSpec.pre6 enc Try.prog Try.f10 Rows.fnExactSetInodeRow.domain false) (Rows.fnExactSetInodeSpec.post enc Try.prog Try.f10 false true false false) := by
  refine returnsInHanded_of_change (C := Try.checked) own started (by kernel_rfl) Try.func10
    (ChangeSpec.witness6 (enc := enc) (C := Try.checked) false ⟨#[], #[.agg #[.slice none 0 0, .int .i64 0], .agg #[.int .i64 0, .int .i64 0, .int .i64 0, .slice none 0 0, .slice none 0 0, .slice none 0 0]], []⟩ 8 (by kernel_rfl) (by kernel_rfl) (by kernel_rfl) (by kernel_rfl)) ?_
  intro W base args ds gs before hval0 hW hcnd _
  have hval : ∀ (j : Nat) t v, Try.f10.params[j]? = some t → args[j]? = some v → Value.okWide Try.prog W .any base t v := hval0
  have hW' := hW
  obtain ⟨p, q, hA0, hV, rfl, hfz, hnd⟩ := hW
  have hA : DataW.TrodAll enc Try.prog W 0 (fun _ => true) true Try.f10.params.toList args.toList ds p := hA0
  rw [Try.params10] at hA hval
  obtain ⟨v0, vs0, d0, ds0, p0, q0, hargs, rfl, rfl, h0, r0⟩ := trodAll_cons hA
  obtain ⟨v1, vs1, d1, ds1, p1, q1, rfl, rfl, rfl, h1, r1⟩ := trodAll_cons r0
  obtain ⟨rfl, rfl, rfl⟩ := trodAll_nil r1
  obtain rfl : args = #[v0, v1] := by cases args; simp_all
  obtain ⟨rfl, rfl⟩ := trodVars_none hV
  have k0 := h0
  have lt0 : ∀ x ∈ p0, x.block < W.heap.size := by obtain ⟨m, hm⟩ := k0; exact DataW.trod_lt m _ _ _ hm
  obtain ⟨x0, c0, n0, rs0, rfl, wn0, m0, i0, w0⟩ := open_tab (hval 0 57 v0 rfl rfl) h0
  have k1 := h1
  have lt1 : ∀ x ∈ p1, x.block < W.heap.size := by obtain ⟨m, hm⟩ := k1; exact DataW.trod_lt m _ _ _ hm
  obtain ⟨D1, x11, c11, x12, c12, x13, c13, rfl, i1, w1⟩ := open_inode (hval 1 66 v1 rfl rfl) h1
  clear hA0 hval0
  refine (walk x0 c0 n0 rs0 D1 x11 c11 x12 c12 x13 c13 W m0 i0 w0 i1 w1).mono fun e W' ⟨he, bel⟩ => ?_
  subst he
  exact ⟨_, rfl, _, _, _, [], _, [], hW', trodAll_mk1 (shut_bool Try.underlying4 _), (trodAll_cons_mk (Below.trod laidOut (by kernel_rfl) (of_decide_eq_true (by kernel_rfl)) k0 bel lt0) (trodAll_cons_mk (Below.trod laidOut (by kernel_rfl) (of_decide_eq_true (by kernel_rfl)) k1 bel lt1) trodAll_mk0)), rfl, bel.frame _, fun h => by cases h⟩

theorem over : Rows.fnExactSetInodeRow.holds Try.pinned (OpenSpec.ofChange Rows.fnExactSetInodeSpec) :=
  OpenClaim.holds_of_wide 10 Try.f10 rfl rfl rfl rfl rfl rfl rfl ⟨rfl, rfl, rfl, rfl, rfl⟩ rfl rfl rfl rfl rfl (by kernel_rfl) Try.func10 (by kernel_rfl)
    (of_decide_eq_true (by kernel_rfl)) (by unfold Func.isWrapper; first | (rw [if_pos (by decide +kernel)]; kernel_rfl) | (rw [if_neg (by decide +kernel)]; exact ⟨rfl, rfl⟩))
    (fun os started H enc _ => lifted os started H enc)

/-- ████ THE STATEMENT ████ -/
theorem proved : Rows.FnExactSetInodeSaid := over
#print axioms proved
end Go.Proofs.Ytnllhpeddoaehaa.fnExactSetInode
