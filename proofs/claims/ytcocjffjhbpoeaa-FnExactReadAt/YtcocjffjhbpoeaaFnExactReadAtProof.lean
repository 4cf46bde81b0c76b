/-
  At every log, every address and every kind both ReadAt functions answer the same record, its body in memory of its own.
  The frame is the one that the guide's own program writes for a law over one []byte, turned to this law's parameters.
-/
import Derived.Test.YtcocjffjhbpoeaaRows
import Derived.Test.YtcocjffjhbpoeaaJ36X
import Derived.WalkKit
import Derived.ProofKit
import Derived.OpenShut
import Derived.ShutString
import Derived.ChangeOld
import Derived.Below
namespace Go.Proofs.Ytcocjffjhbpoeaa.fnExactReadAt
open Go.ChangeShapes Go.WideShapes Go.ChangeAt Go.RowKit
open Go.ChangeMaps (open_string shut_string)
set_option linter.unusedVariables false

theorem own : ownKnob Try.prog.godebug = none := by kernel_rfl
theorem laidOut : laidOutB Try.prog = true := by kernel_rfl

/-! ### STEP 1: THE WALK: the Go text returns true, AND WRITES NOTHING THAT WAS THERE: 'Below w.heap.size w w'' (Derived/Below.lean: '.refl', '.alloc', '.drew', '.setCell' at a new block, '.trans'). Open each 'IsRow' by 'rcases' AHEAD of 'go_enter'; part every test ahead of the walk. -/
set_option maxRecDepth 100000 in
set_option maxHeartbeats 16000000 in
theorem walk (a : Option Addr) (cap : Nat) (bs : List BkR) (ops : Int) (fa : Option Addr) (fc : Nat) (fs : List FtD) (down : Bool) (seq : Int) (x0 y0 : Int) (w : World) (hm : bs.length ≤ maxLen) (hi : ∀ r ∈ bs, BkIn r) (hr : RdBs w a bs) (hfm : fs.length ≤ maxLen) (hrf : RdFa w fa fs) (_hws : (Lit.int .i64 seq).wf = true) (hwx0 : (Lit.int .i64 x0).wf = true) (_hwy0 : (Lit.int .i64 y0).wf = true) :
    Calls Try.prog 5 #[.agg #[.slice a bs.length cap, .int .i64 ops, .slice fa fs.length fc, .bool down, .int .i64 seq], .int .i64 x0, .int .i64 y0] w fun e w' => e = .returned (.bool true) ∧ Below w.heap.size w w' := by
  obtain ⟨n, hn⟩ : ∃ n, bs.length = n := ⟨_, rfl⟩
  obtain ⟨m, hnf⟩ : ∃ m, fs.length = m := ⟨_, rfl⟩
  rw [hn] at hm ⊢
  rw [hnf] at hfm ⊢
  have B0 : Below w.heap.size w (w.alloc (.cells #[.slice a n cap, .int .i64 ops, .slice fa m fc, .bool down, .int .i64 seq] 29)) := (Below.refl _ w).alloc (Nat.le_refl _) _
  have z0 := Blk.new w 29 #[.slice a n cap, .int .i64 ops, .slice fa m fc, .bool down, .int .i64 seq]
  go_enter Try.func5, Try.ntmps5
  go_wp2_with fail
  obtain ⟨W0, hW0⟩ : ∃ W, w.alloc (.cells #[.slice a n cap, .int .i64 ops, .slice fa m fc, .bool down, .int .i64 seq] 29) = W := ⟨_, rfl⟩
  rw [hW0] at B0 z0 ⊢
  clear hW0
  refine (szLog_w a n cap 1048576 bs ops fa m fc down seq W0 hn hm hfm (by omega) hi (hr.keep B0)).mono ?_
  rintro e w1 ⟨hsz, b1⟩
  have B1 := B0.trans (b1.mono B0.size)
  have z1 := z0.keep b1
  rcases hsz with rfl | ⟨x, hx, rfl, _⟩
  · go_wp2
    go_ret
    exact ⟨rfl, B1⟩
  have hx0 : ¬ (x : Int) < 0 := by omega
  have htot : Hid (totB (bs.map BkR.D) ≤ 1048576) := by show _ ≤ _; omega
  have hmt : Hid (m ≤ 1048576) := by show _ ≤ _; omega
  have HN : Hid ((bs.map BkR.D).length = n) := by show _ = _; simp [hn]
  have HRA : Hid (∀ W : World, Below w.heap.size w W → CR W a n bs ∧ FR W fa m fs) := fun W h => ⟨⟨hn, htot.out, hr.keep h⟩, ⟨hnf, hmt.out, hrf.keep h⟩⟩
  have CA : Hid (∀ (W : World), CR W a n bs ∧ FR W fa m fs → _) := fun (W : World) (h : CR W a n bs ∧ FR W fa m fs) => toLog_any a n cap bs ops fa m fc fs down seq W h.1 h.2
  have HCF : Hid (∀ (W : World) (B g g' : Nat) (ts : List BkR), NewDv W B (some ⟨g, 0, none⟩) n n (some ⟨g', 0, none⟩) m m (bs.map BkR.D) fs ts → CR W (some ⟨g, 0, none⟩) n ts ∧ FR W (some ⟨g', 0, none⟩) m fs) := fun W B g g' ts h => ⟨⟨by rw [h.bs.len, HN.out], by rw [h.bs.D]; exact htot.out, h.bs.rd⟩, OwnFa.fr h.fs hmt.out⟩
  have hxr := bounds_i64 hwx0
  have HBY : Hid (BytC (bs.map BkR.D)) := by
    show BytC _
    intro b hb p hp
    obtain ⟨r, hr2, rfl⟩ := List.mem_map.1 hb
    obtain ⟨q, hq, rfl⟩ := List.mem_map.1 hp
    exact ((hi r hr2).ps q hq).byt
  have cS : ∀ (W : World) (B g g' : Nat) (ts : List BkR), NewDv W B (some ⟨g, 0, none⟩) n n (some ⟨g', 0, none⟩) m m (bs.map BkR.D) fs ts → Calls Try.prog 15 #[.agg #[.slice (some ⟨g, 0, none⟩) n n, .int .i64 ops, .slice (some ⟨g', 0, none⟩) m m, .bool down, .int .i64 seq], .int .i64 x0, .int .i64 y0] W (RcA W (atRec (bs.map BkR.D) x0 y0) (atOk (bs.map BkR.D) x0 y0)) := fun W B g g' ts h => by
    have := readAtS (some ⟨g, 0, none⟩) n n ts ops (some ⟨g', 0, none⟩) m m down seq x0 y0 W (HCF.out W B g g' ts h).1 (by rw [h.bs.D]; exact HBY.out) hxr
    rw [h.bs.D] at this
    exact this
  have cI : ∀ (W : World) (B g g' : Nat) (ts : List BkR), NewDv W B (some ⟨g, 0, none⟩) n n (some ⟨g', 0, none⟩) m m (bs.map BkR.D) fs ts → Calls Try.prog 16 #[.agg #[.slice (some ⟨g, 0, none⟩) n n, .int .i64 ops, .slice (some ⟨g', 0, none⟩) m m, .bool down, .int .i64 seq], .int .i64 x0, .int .i64 y0] W (RcA W (atRec (bs.map BkR.D) x0 y0) (atOk (bs.map BkR.D) x0 y0)) := fun W B g g' ts h => by
    have := readAtI (some ⟨g, 0, none⟩) n n ts ops (some ⟨g', 0, none⟩) m m down seq x0 y0 W (HCF.out W B g g' ts h).1 (by rw [h.bs.D]; exact HBY.out) hxr
    rw [h.bs.D] at this
    exact this
  have hDs : (atRec (bs.map BkR.D) x0 y0).body.length ≤ 1048576 := by
    unfold atRec
    split
    · exact rcR_len _ (pgA_len htot.out x0)
    · simp
  generalize atRec (bs.map BkR.D) x0 y0 = D at cS cI hDs
  generalize atOk (bs.map BkR.D) x0 y0 = ok at cS cI
  have hcb : Hid (∀ ts : List BkR, ts.map BkR.D = bs.map BkR.D → 1 + cBs ts + 3 * m ≤ 9999990) := fun ts h => by
    have := cBs_le ts
    rw [h] at this
    have h2 := htot.out
    have h3 := hmt.out
    omega
  unfold RcA at cS cI
  have cE := fun (W : World) (a b : Option Addr) (c d : Nat) (h1 : Rd W a D.body) (h2 : Rd W b D.body) => eqRec_same D a b c d W (by omega) h1 h2
  have cM := fun (W : World) (a : Option Addr) (c : Nat) (zs : List Int) (h : RowB W (.slice a D.body.length c) D.body.length zs) => markRec_any D a c D.body.length zs W rfl (by omega) h
  have cH := fun (W : World) (a : Option Addr) (c : Nat) (h : RowB W (.slice a D.body.length c) D.body.length (marksG 1 D.body.length)) => heldRec_any D a c D.body.length W rfl (by omega) h
  obtain ⟨kind, sq, body⟩ := D
  unfold recC at cS cI cE cM cH
  dsimp only at cS cI cE cM cH hDs
  obtain ⟨nb, hnb⟩ : ∃ m, body.length = m := ⟨_, rfl⟩
  rw [hnb] at cS cI cE cM cH hDs
  have CS : Hid _ := cS
  have CI : Hid _ := cI
  have CE : Hid _ := cE
  have CM : Hid _ := cM
  have CH : Hid _ := cH
  have hoo : (ok != ok) = false := by simp
  clear cS cI cE cM cH hr hn hi hm hwx0 hxr B0 z0 b1 hnf hrf hnb
  have q0 := (z1).cell 0
  have q1 := (z1).cell 1
  have q2 := (z1).cell 2
  have q3 := (z1).cell 3
  have q4 := (z1).cell 4
  simp at q0 q1 q2 q3 q4
  obtain ⟨G0, hG0⟩ : ∃ G, w.heap.size = G := ⟨_, rfl⟩
  have hG0' : Hid (w.heap.size = G0) := hG0
  rw [hG0] at z1 q0 q1 q2 q3 q4 ⊢
  go_wp2_with fail
  refine (CA.out w1 (HRA.out _ B1)).mono ?_
  rintro e w2 ⟨gA, hA, tA, rfl, qA, b2⟩
  have B2 := B1.trans (b2.mono B1.size)
  have z2 := z1.keep b2
  clear q0 q1 q2 q3 q4 z1 b2
  go_wp2_with fail
  refine (CS.out w2 _ gA hA tA qA).mono ?_
  rintro e w3 ⟨⟨aS, cpS, rfl, rS, _⟩, b3⟩
  have B3 := B2.trans (b3.mono B2.size)
  have z3 := z2.keep b3
  have b3' : Below w3.heap.size w3 (w3.alloc (.cells #[.int .i64 kind, .int .i64 sq, .slice aS nb cpS] 47)) := (Below.refl _ w3).alloc (Nat.le_refl _) _
  have y3 := Blk.new w3 47 #[.int .i64 kind, .int .i64 sq, .slice aS nb cpS]
  have hrS3 : ∀ g, (Value.slice aS nb cpS).ownBlock = some g → g < w3.heap.size := fun g hg => (rS.at_ hg).1
  clear qA z2 b3
  obtain ⟨W3, hW3⟩ : ∃ W, w3.alloc (.cells #[.int .i64 kind, .int .i64 sq, .slice aS nb cpS] 47) = W := ⟨_, rfl⟩
  have hs3 : W3.heap.size = w3.heap.size + 1 := by rw [← hW3]; simp
  have hz3 := z3.lt
  rw [hW3] at b3' y3
  have zS3 := z3.keep b3'
  have rS3 := rS.keepB b3'
  have B3' := B3.trans (b3'.mono B3.size)
  have q0 := (zS3).cell 0
  have q1 := (zS3).cell 1
  have q2 := (zS3).cell 2
  have q3 := (zS3).cell 3
  have q4 := (zS3).cell 4
  simp at q0 q1 q2 q3 q4
  obtain ⟨TS, hTS⟩ : ∃ T, w3.heap.size = T := ⟨_, rfl⟩
  rw [hTS] at y3 hs3 hz3 hrS3
  clear z3 rS B3 b3'
  go_wp2_with fail
  try rw [hW3]
  clear hW3
  refine (CA.out W3 (HRA.out _ B3')).mono ?_
  rintro e w4 ⟨gB, hB, tB, rfl, qB, b4⟩
  have B4 := B3'.trans (b4.mono B3'.size)
  have z4 := zS3.keep b4
  have y4 := y3.keep b4
  have rS4 := rS3.keepB b4
  have hs4 := b4.size
  have b5 : Below w4.heap.size w4 (w4.alloc (.cells #[.slice (some ⟨gB, 0, none⟩) n n, .int .i64 ops, .slice (some ⟨hB, 0, none⟩) m m, .bool down, .int .i64 seq] 39)) := (Below.refl _ w4).alloc (Nat.le_refl _) _
  have m5 := Blk.new w4 39 #[.slice (some ⟨gB, 0, none⟩) n n, .int .i64 ops, .slice (some ⟨hB, 0, none⟩) m m, .bool down, .int .i64 seq]
  clear q0 q1 q2 q3 q4 zS3 y3 rS3 b4
  go_wp2_with fail
  obtain ⟨W5, hW5⟩ : ∃ W, w4.alloc (.cells #[.slice (some ⟨gB, 0, none⟩) n n, .int .i64 ops, .slice (some ⟨hB, 0, none⟩) m m, .bool down, .int .i64 seq] 39) = W := ⟨_, rfl⟩
  rw [hW5] at b5 m5 ⊢
  clear hW5
  obtain ⟨G4, hG4⟩ : ∃ G, w4.heap.size = G := ⟨_, rfl⟩
  have hxF : Hid (∀ g ∈ fpDv (some ⟨gB, 0, none⟩) n n (some ⟨hB, 0, none⟩) m m tB, g < G4 ∧ TS < g) := fun g hg => by
    have h1 := qB.lt g hg
    have h2 := qB.from g hg
    exact ⟨by omega, by omega⟩
  rw [hG4] at m5 hs4 ⊢
  have B5 := B4.trans (b5.mono B4.size)
  have z5 := z4.keep b5
  have y5 := y4.keep b5
  have qB5 := qB.keep b5
  have rS5 := rS4.keepB b5
  clear qB z4 y4 b5 rS4
  have hw5 := m5.lt
  refine (CI.out W5 _ gB hB tB qB5).mono ?_
  rintro e w6 ⟨⟨aI, cpI, rfl, rI, nI⟩, b6⟩
  have B6 := B5.trans (b6.mono B5.size)
  have hs6 := b6.size
  have b7 : Below w6.heap.size w6 (w6.alloc (.cells #[.int .i64 kind, .int .i64 sq, .slice aI nb cpI] 47)) := (Below.refl _ w6).alloc (Nat.le_refl _) _
  have x6 := Blk.new w6 47 #[.int .i64 kind, .int .i64 sq, .slice aI nb cpI]
  have b67 := b6.trans (b7.mono b6.size)
  have z7 := z5.keep b67
  have y7 := y5.keep b67
  have m7 := m5.keep b67
  have qB7 := qB5.keep b67
  have rS7 := rS5.keepB b67
  have rI7 := rI.keepB b7
  have B7 := B6.trans (b7.mono B6.size)
  have hIF : Hid (∀ g, (Value.slice aI nb cpI).ownBlock = some g → G4 < g ∧ g < w6.heap.size) := fun g hg => ⟨by have := nI g hg; omega, (rI.at_ hg).1⟩
  obtain ⟨W7, hW7⟩ : ∃ W, w6.alloc (.cells #[.int .i64 kind, .int .i64 sq, .slice aI nb cpI] 47) = W := ⟨_, rfl⟩
  rw [hW7] at b7 x6 z7 y7 m7 qB7 rS7 rI7 B7
  obtain ⟨TI, hTI⟩ : ∃ T, w6.heap.size = T := ⟨_, rfl⟩
  rw [hTI] at x6 hIF hs6
  have hGT : G4 < TI := by omega
  clear qB5 z5 y5 m5 b6 rS5 nI b7 b67 rI B6 hs6
  obtain ⟨x0', x1', x2'⟩ := y7.thr
  obtain ⟨u0, u1, u2⟩ := x6.thr
  go_wp2_with fail
  try rw [hW7]
  clear hW7
  refine (CE.out W7 _ _ _ _ rI7.rdS rS7.rdS).mono ?_
  rintro e w8 ⟨rfl, b8⟩
  have B8 := B7.trans (b8.mono B7.size)
  have z8 := z7.keep b8
  have y8 := y7.keep b8
  have x8 := x6.keep b8
  have m8 := m7.keep b8
  have qB8 := qB7.keep b8
  have rS8 := rS7.keepB b8
  have rI8 := rI7.keepB b8
  clear qB7 z7 y7 m7 x6 b8 rS7 rI7 x0' x1' x2' u0 u1 u2
  have q0 := (z8).cell 0
  have q1 := (z8).cell 1
  have q2 := (z8).cell 2
  have q3 := (z8).cell 3
  have q4 := (z8).cell 4
  simp at q0 q1 q2 q3 q4
  have p0 := (m8).cell 0
  have p1 := (m8).cell 1
  have p2 := (m8).cell 2
  have p3 := (m8).cell 3
  have p4 := (m8).cell 4
  simp at p0 p1 p2 p3 p4
  have r8 := HRA.out _ B8.drew
  have b8d := (Below.refl w8.heap.size w8).drew
  have qB8d := qB8.keep b8d
  have m8d := m8.keep b8d
  have hbs8 := B8.size
  have HC8 : Hid (NewDv w8.drew W3.heap.size (some ⟨gB, 0, none⟩) n n (some ⟨hB, 0, none⟩) m m (bs.map BkR.D) fs tB ∧ RowB w8.drew (.slice aS nb cpS) nb body ∧ RowB w8.drew (.slice aI nb cpI) nb body ∧ Blk w8.drew G0 29 #[.slice a n cap, .int .i64 ops, .slice fa m fc, .bool down, .int .i64 seq] ∧ Blk w8.drew G4 39 #[.slice (some ⟨gB, 0, none⟩) n n, .int .i64 ops, .slice (some ⟨hB, 0, none⟩) m m, .bool down, .int .i64 seq] ∧ Blk w8.drew TS 47 #[.int .i64 kind, .int .i64 sq, .slice aS nb cpS] ∧ Blk w8.drew TI 47 #[.int .i64 kind, .int .i64 sq, .slice aI nb cpI] ∧ Below w.heap.size w w8.drew) := ⟨qB8d, rS8.keepB b8d, rI8.keepB b8d, z8.keep b8d, m8d, y8.keep b8d, x8.keep b8d, B8.drew⟩
  clear qB8 z8 m8 y8 x8 rS8 rI8 b8d B8
  go_wp2
  go_region_with (first
    | (go_at_call 10; (with_reducible refine (CA.out _ r8).mono ?_); rintro e wA ⟨gC, hC, tC, rfl, qC, b9⟩; have qAA := qB8d.keep b9; have t0 := (m8d.keep b9).cell 0; have t1 := (m8d.keep b9).cell 1; have t2 := (m8d.keep b9).cell 2; have t3 := (m8d.keep b9).cell 3; have t4 := (m8d.keep b9).cell 4; simp at t0 t1 t2 t3 t4)
    | (go_at_call 12; refine (eqLg ops down seq HN.out (Nat.le_trans htot.out (by omega)) hmt.out qAA qC).mono ?_; rintro e w9 ⟨rfl, b10⟩))
  all_goals
    have b11 := b9.trans (b10.mono b9.size)
    obtain ⟨qB9, rS9, rI9, z9, m9, y9, x9, B9⟩ := HC8.out
    replace qB9 := qB9.keep b11
    replace rS9 := rS9.keepB b11
    replace rI9 := rI9.keepB b11
    replace z9 := z9.keep b11
    replace m9 := m9.keep b11
    replace y9 := y9.keep b11
    replace x9 := x9.keep b11
    replace B9 := B9.trans (b11.mono B9.size)
    clear b9 b10 b11 qB8d m8d qAA qC p0 p1 p2 p3 p4 q0 q1 q2 q3 q4 t0 t1 t2 t3 t4 r8 HC8
    have hcm := hcb.out tB qB9.bs.D
    have hmk := markLg_any ops down seq hcm qB9
    obtain ⟨K, hK⟩ : ∃ K, 1 + cBs tB + 3 * m = K := ⟨_, rfl⟩
    rw [hK] at hmk hcm
    have hK0 : ¬ (K : Int) < 0 := by omega
    clear hK qB9
    have p0 := (m9).cell 0
    have p1 := (m9).cell 1
    have p2 := (m9).cell 2
    have p3 := (m9).cell 3
    have p4 := (m9).cell 4
    simp at p0 p1 p2 p3 p4
    go_wp2_with fail
    refine hmk.mono ?_
    rintro e w10 ⟨rfl, _, sv⟩
    have B10 : Below w.heap.size w w10 := Below.svs B9 sv (fun g hg => by have := (hxF.out g hg).2; have := hG0'.out; omega) (Nat.le_refl _)
    have z10 := Blk.svs z9 sv (fun hf => by have := (hxF.out G0 hf).2; omega)
    have y10 := Blk.svs y9 sv (fun hf => by have := (hxF.out TS hf).2; omega)
    have x10 := Blk.svs x9 sv (fun hf => by have := (hxF.out TI hf).1; omega)
    have rS10 := rS9.svs sv (fun g hg hf => by have := (hxF.out g hf).2; have := hrS3 g hg; omega)
    have rI10 := rI9.svs sv (fun g hg hf => by have := (hxF.out g hf).1; have := (hIF.out g hg).1; omega)
    clear rS9 rI9 z9 m9 y9 x9 B9 sv hmk p0 p1 p2 p3 p4
    obtain ⟨u0, u1, u2⟩ := x10.thr
    obtain ⟨v0, v1, v2⟩ := y10.thr
    go_wp2_with fail
    refine (CE.out w10 _ _ _ _ rI10.rdS rS10.rdS).mono ?_
    rintro e w11 ⟨rfl, b11⟩
    have B11 := B10.trans (b11.mono B10.size)
    have z11 := z10.keep b11
    have y11 := y10.keep b11
    have x11 := x10.keep b11
    have rS11 := rS10.keepB b11
    have rI11 := rI10.keepB b11
    clear z10 y10 x10 rS10 rI10 B10 b11 u0 u1 u2 v0 v1 v2
    obtain ⟨u0, u1, u2⟩ := x11.thr
    go_wp2_with fail
    refine (CM.out w11 _ _ _ rI11).mono ?_
    rintro e w12 ⟨rfl, mG, hgr⟩
    have B12 : Below w.heap.size w w12 := below_gro B11 (Nat.le_refl _) hgr (fun g hg => by have := (hIF.out g hg).1; have := hG0'.out; omega)
    have z12 : Blk w12 G0 29 #[.slice a n cap, .int .i64 ops, .slice fa m fc, .bool down, .int .i64 seq] := (hgr.block G0 z11.lt (fun e => by have := (hIF.out G0 e.symm).1; omega)).trans z11
    have y12 : Blk w12 TS 47 _ := (hgr.block TS y11.lt (fun e => by have := (hIF.out TS e.symm).1; omega)).trans y11
    have x12 : Blk w12 TI 47 _ := (hgr.block TI x11.lt (fun e => by have := (hIF.out TI e.symm).2; omega)).trans x11
    have rS12 : RowB w12 (.slice aS nb cpS) nb body := rS11.gr hgr (fun g hg e => by have := (hIF.out g e.symm).1; have := hrS3 g hg; omega)
    clear rS11 rI11 z11 y11 x11 B11 hgr u0 u1 u2
    obtain ⟨M, hM⟩ : ∃ M, 1 + nb = M := ⟨_, rfl⟩
    have CH1 : Hid (∀ (W : World) (a : Option Addr) (c : Nat), RowB W (.slice a nb c) nb (marksG 1 nb) → Calls Try.prog 20 #[.agg #[.int .i64 kind, .int .i64 sq, .slice a nb c], .int .i64 1] W fun e w' => e = .returned (.int .i64 (M : Int)) ∧ Below W.heap.size W w') := by rw [← hM]; exact CH.out
    rw [hM]
    have hM0 : ¬ (M : Int) < 0 := by omega
    have hMM : ((M : Int) != (M : Int)) = false := by simp
    clear hM
    obtain ⟨u0, u1, u2⟩ := x12.thr
    go_wp2_with fail
    refine (CH1.out w12 _ _ mG).mono ?_
    rintro e w13 ⟨rfl, b13⟩
    have B13 := B12.trans (b13.mono B12.size)
    have z13 := z12.keep b13
    have y13 := y12.keep b13
    have x13 := x12.keep b13
    have rS13 := rS12.keepB b13
    have mG13 := mG.keepB b13
    clear z12 y12 x12 rS12 mG B12 b13 u0 u1 u2
    have q0 := (z13).cell 0
    have q1 := (z13).cell 1
    have q2 := (z13).cell 2
    have q3 := (z13).cell 3
    have q4 := (z13).cell 4
    simp at q0 q1 q2 q3 q4
    go_wp2_with fail
    refine (CA.out w13 (HRA.out _ B13)).mono ?_
    rintro e w14 ⟨gD, hD, tD, rfl, qD, b14⟩
    have B14 := B13.trans (b14.mono B13.size)
    have y14 := y13.keep b14
    have x14 := x13.keep b14
    have rS14 := rS13.keepB b14
    have mG14 := mG13.keepB b14
    clear z13 y13 x13 rS13 mG13 B13 b14 q0 q1 q2 q3 q4
    go_wp2_with fail
    refine (CI.out w14 _ gD hD tD qD).mono ?_
    rintro e w15 ⟨⟨aJ, cpJ, rfl, rJ, _⟩, b15⟩
    have b16 : Below w15.heap.size w15 (w15.alloc (.cells #[.int .i64 kind, .int .i64 sq, .slice aJ nb cpJ] 47)) := (Below.refl _ w15).alloc (Nat.le_refl _) _
    have j15 := Blk.new w15 47 #[.int .i64 kind, .int .i64 sq, .slice aJ nb cpJ]
    have b17 := b15.trans (b16.mono b15.size)
    have B16 := B14.trans (b17.mono B14.size)
    have y16 := y14.keep b17
    have x16 := x14.keep b17
    have rS16 := rS14.keepB b17
    have mG16 := mG14.keepB b17
    have rJ16 := rJ.keepB b16
    obtain ⟨W16, hW16⟩ : ∃ W, w15.alloc (.cells #[.int .i64 kind, .int .i64 sq, .slice aJ nb cpJ] 47) = W := ⟨_, rfl⟩
    rw [hW16] at b16 j15 B16 y16 x16 rS16 mG16 rJ16
    obtain ⟨u0, u1, u2⟩ := y16.thr
    obtain ⟨v0, v1, v2⟩ := j15.thr
    clear y14 x14 rS14 mG14 rJ B14 b15 b16 b17 qD
    go_wp2_with fail
    try rw [hW16]
    clear hW16
    refine (CE.out W16 _ _ _ _ rJ16.rdS rS16.rdS).mono ?_
    rintro e w17 ⟨rfl, b17⟩
    have B17 := B16.trans (b17.mono B16.size)
    have x17 := x16.keep b17
    have mG17 := mG16.keepB b17
    clear y16 x16 rS16 mG16 rJ16 j15 B16 b17 u0 u1 u2 v0 v1 v2
    obtain ⟨u0, u1, u2⟩ := x17.thr
    go_wp2_with fail
    refine (CH1.out w17 _ _ mG17).mono ?_
    rintro e w18 ⟨rfl, b18⟩
    have B18 := B17.trans (b18.mono B17.size)
    clear x17 mG17 B17 b18 u0 u1 u2
    go_wp2
    go_ret
    rw [← hG0'.out]
    exact ⟨rfl, B18⟩

/-! ### THE ROW's STEP: WRITTEN OUT: LEAVE IT -/
set_option maxRecDepth 100000 in
theorem lifted (os : Os) (started : os.Started) (H : Type) (enc : TypeId × Value → H) :
    ReturnsInHanded {} Try.checked os 5 .any (Rows.fnExactReadAtSpec.pre6 enc Try.prog Try.f5 Rows.fnExactReadAtRow.domain false) (Rows.fnExactReadAtSpec.post enc Try.prog Try.f5 false true false false) := by
  refine returnsInHanded_of_change (C := Try.checked) own started (by kernel_rfl) Try.func5
    (ChangeSpec.witness6 (enc := enc) (C := Try.checked) false ⟨#[], #[.agg #[.slice none 0 0, .int .i64 0, .slice none 0 0, .bool false, .int .i64 0], .int .i64 0, .int .i64 0], []⟩ 8 (by kernel_rfl) (by kernel_rfl) (by kernel_rfl) (by kernel_rfl)) ?_
  intro W base args ds gs before hval0 hW hcnd _
  have hval : ∀ (j : Nat) t v, Try.f5.params[j]? = some t → args[j]? = some v → Value.okWide Try.prog W .any base t v := hval0
  have hW' := hW
  obtain ⟨p, q, hA0, hV, rfl, hfz, hnd⟩ := hW
  have hA : DataW.TrodAll enc Try.prog W 0 (fun _ => true) true Try.f5.params.toList args.toList ds p := hA0
  rw [Try.params5] at hA hval
  obtain ⟨v0, vs0, d0, ds0, p0, q0, hargs, rfl, rfl, h0, r0⟩ := trodAll_cons hA
  obtain ⟨v1, vs1, d1, ds1, p1, q1, rfl, rfl, rfl, h1, r1⟩ := trodAll_cons r0
  obtain ⟨v2, vs2, d2, ds2, p2, q2, rfl, rfl, rfl, h2, r2⟩ := trodAll_cons r1
  obtain ⟨rfl, rfl, rfl⟩ := trodAll_nil r2
  obtain rfl : args = #[v0, v1, v2] := by cases args; simp_all
  obtain ⟨rfl, rfl⟩ := trodVars_none hV
  have k0 := h0
  have lt0 : ∀ x ∈ p0, x.block < W.heap.size := by obtain ⟨m, hm⟩ := k0; exact DataW.trod_lt m _ _ _ hm
  obtain ⟨x0, c0, rs0, o0, fa0, fc0, fs0, dn0, sq0, rfl, m0, i0, w0, fm0, fw0, ws0⟩ := open_log (hval 0 29 v0 rfl rfl) h0
  obtain ⟨s1, rfl, rfl, rfl, w1⟩ := open_int Try.underlying3 (hval 1 3 v1 rfl rfl) h1
  obtain ⟨s2, rfl, rfl, rfl, w2⟩ := open_int Try.underlying3 (hval 2 3 v2 rfl rfl) h2
  clear hA0 hval0
  refine (walk x0 c0 rs0 o0 fa0 fc0 fs0 dn0 sq0 s1 s2 W m0 i0 w0 fm0 fw0 ws0 w1 w2).mono fun e W' ⟨he, bel⟩ => ?_
  subst he
  exact ⟨_, rfl, _, _, _, [], _, [], hW', trodAll_mk1 (shut_bool Try.underlying4 _), (trodAll_cons_mk (Below.trod laidOut (by kernel_rfl) (of_decide_eq_true (by kernel_rfl)) k0 bel lt0) (trodAll_cons_mk (shut_int Try.underlying3 w1) (trodAll_cons_mk (shut_int Try.underlying3 w2) trodAll_mk0))), rfl, bel.frame _, fun h => by cases h⟩

theorem over : Rows.fnExactReadAtRow.holds Try.pinned (OpenSpec.ofChange Rows.fnExactReadAtSpec) :=
  OpenClaim.holds_of_wide 5 Try.f5 rfl rfl rfl rfl rfl rfl rfl ⟨rfl, rfl, rfl, rfl, rfl⟩ rfl rfl rfl rfl rfl (by kernel_rfl) Try.func5 (by kernel_rfl)
    (of_decide_eq_true (by kernel_rfl)) (by unfold Func.isWrapper; first | (rw [if_pos (by decide +kernel)]; kernel_rfl) | (rw [if_neg (by decide +kernel)]; exact ⟨rfl, rfl⟩))
    (fun os started H enc _ => lifted os started H enc)

/-- ████ THE STATEMENT ████ -/
theorem proved : Rows.FnExactReadAtSaid := over
#print axioms proved
end Go.Proofs.Ytcocjffjhbpoeaa.fnExactReadAt
