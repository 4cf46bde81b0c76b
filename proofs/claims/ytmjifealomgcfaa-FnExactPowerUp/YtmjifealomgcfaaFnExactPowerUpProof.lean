/-
  At every device the program's PowerUp answers as the specification's, every field, writes into no argument, and its answer owns its memory: with no condition.
  The frame is the one that the guide's own program writes for a law over one []byte, turned to this law's parameters.
-/
import Derived.Test.YtmjifealomgcfaaRows
import Derived.Test.YtmjifealomgcfaaJ12V
import Derived.Test.YtmjifealomgcfaaJ24V
import Derived.WalkKit
import Derived.ProofKit
import Derived.OpenShut
import Derived.ShutString
import Derived.ChangeOld
import Derived.Below
namespace Go.Proofs.Ytmjifealomgcfaa.fnExactPowerUp
open Go.ChangeShapes Go.WideShapes Go.ChangeAt Go.RowKit
open Go.ChangeMaps (open_string shut_string)
set_option linter.unusedVariables false

theorem own : ownKnob Try.prog.godebug = none := by kernel_rfl
theorem laidOut : laidOutB Try.prog = true := by kernel_rfl

/-! ### STEP 1: THE WALK: the Go text returns true, AND WRITES NOTHING THAT WAS THERE: 'Below w.heap.size w w'' (Derived/Below.lean: '.refl', '.alloc', '.drew', '.setCell' at a new block, '.trans'). Open each 'IsRow' by 'rcases' AHEAD of 'go_enter'; part every test ahead of the walk. -/
set_option maxRecDepth 100000 in
set_option maxHeartbeats 16000000 in
theorem walk (a : Option Addr) (cap : Nat) (bs : List BkR) (ops : Int) (fa : Option Addr) (fc : Nat) (fs : List FtD) (down : Bool) (w : World) (hm : bs.length ≤ maxLen) (hi : ∀ r ∈ bs, BkIn r) (hr : RdBs w a bs) (hfm : fs.length ≤ maxLen) (hrf : RdFa w fa fs) :
    Calls Try.prog 6 #[.agg #[.slice a bs.length cap, .int .i64 ops, .slice fa fs.length fc, .bool down]] w fun e w' => e = .returned (.bool true) ∧ Below w.heap.size w w' := by
  obtain ⟨n, hn⟩ : ∃ n, bs.length = n := ⟨_, rfl⟩
  obtain ⟨m, hnf⟩ : ∃ m, fs.length = m := ⟨_, rfl⟩
  rw [hn] at hm ⊢
  rw [hnf] at hfm ⊢
  have B0 : Below w.heap.size w (w.alloc (.cells #[.slice a n cap, .int .i64 ops, .slice fa m fc, .bool down] 41)) := (Below.refl _ w).alloc (Nat.le_refl _) _
  have z0 := Blk.new w 41 #[.slice a n cap, .int .i64 ops, .slice fa m fc, .bool down]
  go_enter Try.func6, Try.ntmps6
  go_wp2_with fail
  obtain ⟨W0, hW0⟩ : ∃ W, w.alloc (.cells #[.slice a n cap, .int .i64 ops, .slice fa m fc, .bool down] 41) = W := ⟨_, rfl⟩
  rw [hW0] at B0 z0 ⊢
  clear hW0
  refine (szDev_w a n cap 1048576 bs ops fa m fc down W0 hn hm hfm (by omega) hi (hr.keep B0)).mono ?_
  rintro e w1 ⟨hsz, b1⟩
  have B1 := B0.trans (b1.mono B0.size)
  have z1 := z0.keep b1
  rcases hsz with rfl | ⟨x, hx, rfl, _⟩
  · go_wp2
    go_ret
    exact ⟨rfl, B1⟩
  have hx0 : ¬ (x : Int) < 0 := by omega
  have htot : Hid (totB (bs.map BkR.D) ≤ 1048576) := by show _ ≤ _; omega
  have hmt : Hid (m ≤ 1048576) := by show _ ≤ _; omega
  have HN : Hid ((bs.map BkR.D).length = n) := by show _ = _; simp [hn]
  have HRA : Hid (∀ W : World, Below w.heap.size w W → CR W a n bs ∧ FR W fa m fs) := fun W h => ⟨⟨hn, htot.out, hr.keep h⟩, ⟨hnf, hmt.out, hrf.keep h⟩⟩
  have CA : Hid (∀ (W : World), CR W a n bs ∧ FR W fa m fs → _) := fun (W : World) (h : CR W a n bs ∧ FR W fa m fs) => toDev_any a n cap bs ops fa m fc fs down W h.1 h.2
  have HCF : Hid (∀ (W : World) (B g g' : Nat) (ts : List BkR), NewDv W B (some ⟨g, 0, none⟩) n n (some ⟨g', 0, none⟩) m m (bs.map BkR.D) fs ts → CR W (some ⟨g, 0, none⟩) n ts ∧ FR W (some ⟨g', 0, none⟩) m fs) := fun W B g g' ts h => ⟨⟨by rw [h.bs.len, HN.out], by rw [h.bs.D]; exact htot.out, h.bs.rd⟩, OwnFa.fr h.fs hmt.out⟩
  obtain ⟨dE, hdE⟩ : ∃ d, bs.map BkR.D = d := ⟨_, rfl⟩
  obtain ⟨oE, hoE⟩ : ∃ d, ops = d := ⟨_, rfl⟩
  obtain ⟨wE, hwE⟩ : ∃ d, false = d := ⟨_, rfl⟩
  have HE : Hid (dE.length = n) := by show _ = _; rw [← hdE]; exact HN.out
  have HT : Hid (totB dE ≤ 1048585) := by show _ ≤ _; rw [← hdE]; have := htot.out; omega
  have cS : ∀ (W : World) (B g g' : Nat) (ts : List BkR), NewDv W B (some ⟨g, 0, none⟩) n n (some ⟨g', 0, none⟩) m m (bs.map BkR.D) fs ts → Calls Try.prog 23 #[.agg #[.slice (some ⟨g, 0, none⟩) n n, .int .i64 ops, .slice (some ⟨g', 0, none⟩) m m, .bool down]] W fun e w' => ∃ a c fa fc qs, e = .returned (.agg #[.slice a n c, .int .i64 oE, .slice fa m fc, .bool wE]) ∧ NewDv w' W.heap.size a n c fa m fc dE fs qs ∧ Below W.heap.size W w' := fun W B g g' ts h => by
    have := powerUpS (some ⟨g, 0, none⟩) n n ts ops (some ⟨g', 0, none⟩) m m fs down W (HCF.out W B g g' ts h).1 (HCF.out W B g g' ts h).2
    rw [h.bs.D, hdE] at this
    exact this.mono fun e w' hA => by
      obtain ⟨a, k, c, fa, j, fc, qs, e1, e2, e3, e4⟩ := hA
      have hk : k = n := by rw [← e3, e2.bs.len, HE.out]
      have hj : j = m := by rw [← OwnE.len e2.fs, hnf]
      subst hk hj
      dsimp only at e1 e2
      rw [hoE, hwE] at e1
      exact ⟨a, c, fa, fc, qs, e1, e2, e4⟩
  have cI : ∀ (W : World) (B g g' : Nat) (ts : List BkR), NewDv W B (some ⟨g, 0, none⟩) n n (some ⟨g', 0, none⟩) m m (bs.map BkR.D) fs ts → Calls Try.prog 24 #[.agg #[.slice (some ⟨g, 0, none⟩) n n, .int .i64 ops, .slice (some ⟨g', 0, none⟩) m m, .bool down]] W fun e w' => ∃ a c fa fc qs, e = .returned (.agg #[.slice a n c, .int .i64 oE, .slice fa m fc, .bool wE]) ∧ NewDv w' W.heap.size a n c fa m fc dE fs qs ∧ Below W.heap.size W w' := fun W B g g' ts h => by
    have := powerUpI (some ⟨g, 0, none⟩) n n ts ops (some ⟨g', 0, none⟩) m m fs down W (HCF.out W B g g' ts h).1 (HCF.out W B g g' ts h).2
    rw [h.bs.D, hdE] at this
    exact this.mono fun e w' hA => by
      obtain ⟨a, k, c, fa, j, fc, qs, e1, e2, e3, e4⟩ := hA
      have hk : k = n := by rw [← e3, e2.bs.len, HE.out]
      have hj : j = m := by rw [← OwnE.len e2.fs, hnf]
      subst hk hj
      dsimp only at e1 e2
      rw [hoE, hwE] at e1
      exact ⟨a, c, fa, fc, qs, e1, e2, e4⟩
  have hcb : Hid (∀ ts : List BkR, ts.map BkR.D = bs.map BkR.D → 1 + cBs ts + 3 * m ≤ 9999990) := fun ts h => by
    have := cBs_le ts
    rw [h] at this
    have h2 := htot.out
    have h3 := hmt.out
    omega
  have hcbE : Hid (∀ ts : List BkR, ts.map BkR.D = dE → 1 + cBs ts + 3 * m ≤ 9999990) := fun ts h => by
    have := cBs_le ts
    rw [h] at this
    have h2 := HT.out
    have h3 := hmt.out
    omega
  have CS : Hid _ := cS
  have CI : Hid _ := cI
  clear cS cI hr hn hi hm B0 z0 b1 hdE hoE hwE hnf hrf
  have q0 := (z1).cell 0
  have q1 := (z1).cell 1
  have q2 := (z1).cell 2
  have q3 := (z1).cell 3
  simp at q0 q1 q2 q3
  obtain ⟨G0, hG0⟩ : ∃ G, w.heap.size = G := ⟨_, rfl⟩
  have hG0' : Hid (w.heap.size = G0) := hG0
  rw [hG0] at z1 q0 q1 q2 q3 ⊢
  go_wp2_with fail
  refine (CA.out w1 (HRA.out _ B1)).mono ?_
  rintro e w2 ⟨gA, hA, tA, rfl, qA, b2⟩
  have B2 := B1.trans (b2.mono B1.size)
  have z2 := z1.keep b2
  have hz2 := z2.lt
  clear q0 q1 q2 q3 z1 b2
  go_wp2_with fail
  refine (CS.out w2 _ gA hA tA qA).mono ?_
  rintro e w3 ⟨aS, cpS, fS, kS, tS, rfl, qS, b3⟩
  have B3 := B2.trans (b3.mono B2.size)
  have z3 := z2.keep b3
  have b3' : Below w3.heap.size w3 (w3.alloc (.cells #[.slice aS n cpS, .int .i64 oE, .slice fS m kS, .bool wE] 29)) := (Below.refl _ w3).alloc (Nat.le_refl _) _
  have s3 := Blk.new w3 29 #[.slice aS n cpS, .int .i64 oE, .slice fS m kS, .bool wE]
  have q0 := (z3.keep b3').cell 0
  have q1 := (z3.keep b3').cell 1
  have q2 := (z3.keep b3').cell 2
  have q3 := (z3.keep b3').cell 3
  simp at q0 q1 q2 q3
  clear qA z2 b3
  go_wp2_with fail
  obtain ⟨W3, hW3⟩ : ∃ W, w3.alloc (.cells #[.slice aS n cpS, .int .i64 oE, .slice fS m kS, .bool wE] 29) = W := ⟨_, rfl⟩
  rw [hW3] at b3' s3 q0 q1 q2 q3 ⊢
  clear hW3
  obtain ⟨GS, hGS⟩ : ∃ G, w3.heap.size = G := ⟨_, rfl⟩
  have hSl : Hid (∀ g ∈ fpDv aS n cpS fS m kS tS, G0 < g ∧ g < GS) := fun g hg => by
    have h1 := qS.from g hg
    have h2 := qS.lt g hg
    exact ⟨by omega, by omega⟩
  rw [hGS] at s3 ⊢
  have hG0S : G0 < GS := by have := z3.lt; omega
  have B3' := B3.trans (b3'.mono B3.size)
  have z3' := z3.keep b3'
  have qS3 := qS.keep b3'
  have hGS3 := s3.lt
  clear qS z3 b3' B3 hGS
  refine (CA.out W3 (HRA.out _ B3')).mono ?_
  rintro e w4 ⟨gB, hB, tB, rfl, qB, b4⟩
  have B4 := B3'.trans (b4.mono B3'.size)
  have z4 := z3'.keep b4
  have s4 := s3.keep b4
  have qS4 := qS3.keep b4
  have b5 : Below w4.heap.size w4 (w4.alloc (.cells #[.slice (some ⟨gB, 0, none⟩) n n, .int .i64 ops, .slice (some ⟨hB, 0, none⟩) m m, .bool down] 29)) := (Below.refl _ w4).alloc (Nat.le_refl _) _
  have m5 := Blk.new w4 29 #[.slice (some ⟨gB, 0, none⟩) n n, .int .i64 ops, .slice (some ⟨hB, 0, none⟩) m m, .bool down]
  clear q0 q1 q2 q3 z3' b4 qS3 s3 B3'
  go_wp2_with fail
  obtain ⟨W5, hW5⟩ : ∃ W, w4.alloc (.cells #[.slice (some ⟨gB, 0, none⟩) n n, .int .i64 ops, .slice (some ⟨hB, 0, none⟩) m m, .bool down] 29) = W := ⟨_, rfl⟩
  rw [hW5] at b5 m5 ⊢
  clear hW5
  obtain ⟨G4, hG4⟩ : ∃ G, w4.heap.size = G := ⟨_, rfl⟩
  have hBl : Hid (∀ g ∈ fpDv (some ⟨gB, 0, none⟩) n n (some ⟨hB, 0, none⟩) m m tB, GS < g ∧ g < G4) := fun g hg => by
    have h1 := qB.from g hg
    have h2 := qB.lt g hg
    exact ⟨by omega, by omega⟩
  rw [hG4] at m5 ⊢
  have hGS4 : GS < G4 := by have := s4.lt; omega
  have B5 := B4.trans (b5.mono B4.size)
  have z5 := z4.keep b5
  have s5 := s4.keep b5
  have qS5 := qS4.keep b5
  have qB5 := qB.keep b5
  have hG45 := m5.lt
  clear qB z4 s4 b5 qS4 B4 hG4
  refine (CI.out W5 _ gB hB tB qB5).mono ?_
  rintro e w6 ⟨aI, cpI, fI, kI, tI, rfl, qI, b6⟩
  have B6 := B5.trans (b6.mono B5.size)
  have z6 := z5.keep b6
  have s6 := s5.keep b6
  have m6 := m5.keep b6
  have qB6 := qB5.keep b6
  have qS6 := qS5.keep b6
  have b6' : Below w6.heap.size w6 (w6.alloc (.cells #[.slice aI n cpI, .int .i64 oE, .slice fI m kI, .bool wE] 29)) := (Below.refl _ w6).alloc (Nat.le_refl _) _
  have i6 := Blk.new w6 29 #[.slice aI n cpI, .int .i64 oE, .slice fI m kI, .bool wE]
  have sx0 := (s6.keep b6').cell 0
  have sx1 := (s6.keep b6').cell 1
  have sx2 := (s6.keep b6').cell 2
  have sx3 := (s6.keep b6').cell 3
  simp at sx0 sx1 sx2 sx3
  clear qB5 z5 m5 b6 qS5 s5 B5
  go_wp2_with fail
  obtain ⟨W6, hW6⟩ : ∃ W, w6.alloc (.cells #[.slice aI n cpI, .int .i64 oE, .slice fI m kI, .bool wE] 29) = W := ⟨_, rfl⟩
  rw [hW6] at b6' i6 sx0 sx1 sx2 sx3 ⊢
  clear hW6 sx0 sx1 sx2 sx3
  obtain ⟨GI, hGI⟩ : ∃ G, w6.heap.size = G := ⟨_, rfl⟩
  have hIl : Hid (∀ g ∈ fpDv aI n cpI fI m kI tI, G4 < g ∧ g < GI) := fun g hg => by
    have h1 := qI.from g hg
    have h2 := qI.lt g hg
    exact ⟨by omega, by omega⟩
  rw [hGI] at i6 ⊢
  have hG4I : G4 < GI := by have := m6.lt; omega
  have B6' := B6.trans (b6'.mono B6.size)
  have z6' := z6.keep b6'
  have s6' := s6.keep b6'
  have m6' := m6.keep b6'
  have qB6' := qB6.keep b6'
  have qS6' := qS6.keep b6'
  have qI6' := qI.keep b6'
  clear qB6 z6 m6 b6' qS6 s6 B6 qI hGI
  refine (eqDv oE wE HE.out (Nat.le_trans HT.out (by omega)) hmt.out qI6' qS6').mono ?_
  rintro e w7 ⟨rfl, b7⟩
  have B7 := B6'.trans (b7.mono B6'.size)
  have z7 := z6'.keep b7
  have s7 := s6'.keep b7
  have m7 := m6'.keep b7
  have i7 := i6.keep b7
  have qB7 := qB6'.keep b7
  have qS7 := qS6'.keep b7
  have qI7 := qI6'.keep b7
  clear qB6' z6' m6' b7 qS6' s6' B6' qI6' i6
  have q0 := z7.cell 0
  have q1 := z7.cell 1
  have q2 := z7.cell 2
  have q3 := z7.cell 3
  have p0 := m7.cell 0
  have p1 := m7.cell 1
  have p2 := m7.cell 2
  have p3 := m7.cell 3
  simp at q0 q1 q2 q3 p0 p1 p2 p3
  have r7 := HRA.out _ B7.drew
  have b7d := (Below.refl w7.heap.size w7).drew
  have qB7d := qB7.keep b7d
  have m7d := m7.keep b7d
  have HC7 : Hid (NewDv w7.drew W3.heap.size (some ⟨gB, 0, none⟩) n n (some ⟨hB, 0, none⟩) m m (bs.map BkR.D) fs tB ∧ NewDv w7.drew w2.heap.size aS n cpS fS m kS dE fs tS ∧ NewDv w7.drew W5.heap.size aI n cpI fI m kI dE fs tI ∧ Blk w7.drew G0 41 #[.slice a n cap, .int .i64 ops, .slice fa m fc, .bool down] ∧ Blk w7.drew GS 29 #[.slice aS n cpS, .int .i64 oE, .slice fS m kS, .bool wE] ∧ Blk w7.drew G4 29 #[.slice (some ⟨gB, 0, none⟩) n n, .int .i64 ops, .slice (some ⟨hB, 0, none⟩) m m, .bool down] ∧ Blk w7.drew GI 29 #[.slice aI n cpI, .int .i64 oE, .slice fI m kI, .bool wE] ∧ Below w.heap.size w w7.drew) := ⟨qB7d, qS7.keep b7d, qI7.keep b7d, z7.keep b7d, s7.keep b7d, m7d, i7.keep b7d, B7.drew⟩
  clear qB7 z7 m7 b7d B7 qS7 qI7 s7 i7
  go_wp2
  go_region_with (first
    | (go_at_call 18; (with_reducible refine (CA.out _ r7).mono ?_); rintro e wA ⟨gC, hC, tC, rfl, qC, b9⟩; have qAA := qB7d.keep b9; have t0 := (m7d.keep b9).cell 0; have t1 := (m7d.keep b9).cell 1; have t2 := (m7d.keep b9).cell 2; have t3 := (m7d.keep b9).cell 3; simp at t0 t1 t2 t3)
    | (go_at_call 11; refine (eqDv ops down HN.out (Nat.le_trans htot.out (by omega)) hmt.out qAA qC).mono ?_; rintro e w8 ⟨rfl, b10⟩))
  all_goals
    have b11 := b9.trans (b10.mono b9.size)
    obtain ⟨qB8, qS8, qI8, z8, s8, m8, i8, B8⟩ := HC7.out
    replace qB8 := qB8.keep b11
    replace qS8 := qS8.keep b11
    replace qI8 := qI8.keep b11
    replace z8 := z8.keep b11
    replace s8 := s8.keep b11
    replace m8 := m8.keep b11
    replace i8 := i8.keep b11
    replace B8 := B8.trans (b11.mono B8.size)
    clear b9 b10 b11 qC qAA r7 qB7d m7d q0 q1 q2 q3 p0 p1 p2 p3 HC7
    try clear t0 t1 t2 t3
    have p0 := m8.cell 0
    have p1 := m8.cell 1
    have p2 := m8.cell 2
    have p3 := m8.cell 3
    simp at p0 p1 p2 p3
    go_wp2_with fail
    have hcbo := hcb.out tB qB8.bs.D
    refine (markDv_any ops down hcbo qB8).mono ?_
    rintro e w9 ⟨rfl, _, sv9⟩
    have qS9 := qS8.svs sv9 (fun g hg hf => by have := hSl.out g hg; have := hBl.out g hf; omega)
    have qI9 := qI8.svs sv9 (fun g hg hf => by have := hIl.out g hg; have := hBl.out g hf; omega)
    have z9 := Blk.svs z8 sv9 (fun hf => by have := hBl.out G0 hf; omega)
    have s9 := Blk.svs s8 sv9 (fun hf => by have := hBl.out GS hf; omega)
    have i9 := Blk.svs i8 sv9 (fun hf => by have := hBl.out GI hf; omega)
    have B9 : Below w.heap.size w w9 := Below.svs B8 sv9 (fun g hg => by have := hBl.out g hg; have := hG0'.out; omega) (Nat.le_refl _)
    obtain ⟨Q, hQ⟩ : ∃ Q, 1 + cBs tB + 3 * m = Q := ⟨_, rfl⟩
    rw [hQ]
    have hQ0 : ¬ (Q : Int) < 0 := by omega
    clear hQ hcbo sv9 qS8 qI8 z8 s8 m8 i8 B8 qB8 p0 p1 p2 p3
    have sx0 := s9.cell 0
    have sx1 := s9.cell 1
    have sx2 := s9.cell 2
    have sx3 := s9.cell 3
    have i0 := i9.cell 0
    have i1 := i9.cell 1
    have i2 := i9.cell 2
    have i3 := i9.cell 3
    simp at sx0 sx1 sx2 sx3 i0 i1 i2 i3
    go_wp2_with fail
    refine (eqDv oE wE HE.out (Nat.le_trans HT.out (by omega)) hmt.out qI9 qS9).mono ?_
    rintro e w10 ⟨rfl, b10⟩
    have qS10 := qS9.keep b10
    have qI10 := qI9.keep b10
    have z10 := z9.keep b10
    have s10 := s9.keep b10
    have i10 := i9.keep b10
    have B10 := B9.trans (b10.mono B9.size)
    clear qS9 qI9 z9 s9 i9 B9 b10 sx0 sx1 sx2 sx3 i0 i1 i2 i3
    have i0 := i10.cell 0
    have i1 := i10.cell 1
    have i2 := i10.cell 2
    have i3 := i10.cell 3
    simp at i0 i1 i2 i3
    have hcbI := hcbE.out tI qI10.bs.D
    go_wp2_with fail
    refine (markDv_any oE wE hcbI qI10).mono ?_
    rintro e w11 ⟨rfl, oI, sv11⟩
    have qS11 := qS10.svs sv11 (fun g hg hf => by have := hSl.out g hg; have := hIl.out g hf; omega)
    have z11 := Blk.svs z10 sv11 (fun hf => by have := hIl.out G0 hf; omega)
    have s11 := Blk.svs s10 sv11 (fun hf => by have := hIl.out GS hf; omega)
    have i11 := Blk.svs i10 sv11 (fun hf => by have := hIl.out GI hf; omega)
    have B11 : Below w.heap.size w w11 := Below.svs B10 sv11 (fun g hg => by have := hIl.out g hg; have := hG0'.out; omega) (Nat.le_refl _)
    obtain ⟨M, hM⟩ : ∃ M, 1 + cBs tI + 3 * m = M := ⟨_, rfl⟩
    have CH : Hid (∀ W : World, MkDv W (.slice aI n cpI) m kI fI tI → Calls Try.prog 15 #[.agg #[.slice aI n cpI, .int .i64 oE, .slice fI m kI, .bool wE], .int .i64 1] W fun e w' => e = .returned (.int .i64 (M : Int)) ∧ Below W.heap.size W w') := fun W h => heldDv_any oE wE M hM hcbI h
    rw [hM]
    have hM0 : ¬ (M : Int) < 0 := by omega
    have hMM : ((M : Int) != (M : Int)) = false := by simp
    clear hM hcbI sv11 qS10 qI10 z10 s10 i10 B10 i0 i1 i2 i3
    have i0 := i11.cell 0
    have i1 := i11.cell 1
    have i2 := i11.cell 2
    have i3 := i11.cell 3
    simp at i0 i1 i2 i3
    go_wp2_with fail
    refine (CH.out w11 oI).mono ?_
    rintro e w12 ⟨rfl, b12⟩
    have qS12 := qS11.keep b12
    have oI12 := oI.keep b12
    have z12 := z11.keep b12
    have s12 := s11.keep b12
    have i12 := i11.keep b12
    have B12 := B11.trans (b12.mono B11.size)
    clear qS11 oI z11 s11 i11 B11 b12 i0 i1 i2 i3
    have q0 := z12.cell 0
    have q1 := z12.cell 1
    have q2 := z12.cell 2
    have q3 := z12.cell 3
    simp at q0 q1 q2 q3
    go_wp2_with fail
    refine (CA.out w12 (HRA.out _ B12)).mono ?_
    rintro e w13 ⟨gD, hD, tD, rfl, qD, b13⟩
    have qS13 := qS12.keep b13
    have oI13 := oI12.keep b13
    have s13 := s12.keep b13
    have i13 := i12.keep b13
    have B13 := B12.trans (b13.mono B12.size)
    clear qS12 oI12 z12 s12 i12 B12 b13 q0 q1 q2 q3
    go_wp2_with fail
    refine (CI.out w13 _ gD hD tD qD).mono ?_
    rintro e w14 ⟨aJ, cpJ, fJ, kJ, tJ, rfl, qJ, b14⟩
    have qS14 := qS13.keep b14
    have oI14 := oI13.keep b14
    have s14 := s13.keep b14
    have i14 := i13.keep b14
    have B14 := B13.trans (b14.mono B13.size)
    have b15 : Below w14.heap.size w14 (w14.alloc (.cells #[.slice aJ n cpJ, .int .i64 oE, .slice fJ m kJ, .bool wE] 29)) := (Below.refl _ w14).alloc (Nat.le_refl _) _
    have sx0 := (s14.keep b15).cell 0
    have sx1 := (s14.keep b15).cell 1
    have sx2 := (s14.keep b15).cell 2
    have sx3 := (s14.keep b15).cell 3
    simp at sx0 sx1 sx2 sx3
    clear qS13 oI13 s13 i13 B13 b14 qD
    go_wp2_with fail
    obtain ⟨W15, hW15⟩ : ∃ W, w14.alloc (.cells #[.slice aJ n cpJ, .int .i64 oE, .slice fJ m kJ, .bool wE] 29) = W := ⟨_, rfl⟩
    rw [hW15] at b15 sx0 sx1 sx2 sx3 ⊢
    clear hW15 sx0 sx1 sx2 sx3
    have qS15 := qS14.keep b15
    have qJ15 := qJ.keep b15
    have oI15 := oI14.keep b15
    have i15 := i14.keep b15
    have B15 := B14.trans (b15.mono B14.size)
    clear qS14 qJ oI14 s14 i14 B14 b15
    refine (eqDv oE wE HE.out (Nat.le_trans HT.out (by omega)) hmt.out qJ15 qS15).mono ?_
    rintro e w16 ⟨rfl, b16⟩
    have oI16 := oI15.keep b16
    have i16 := i15.keep b16
    have B16 := B15.trans (b16.mono B15.size)
    clear qS15 qJ15 oI15 i15 B15 b16
    have i0 := i16.cell 0
    have i1 := i16.cell 1
    have i2 := i16.cell 2
    have i3 := i16.cell 3
    simp at i0 i1 i2 i3
    go_wp2_with fail
    refine (CH.out w16 oI16).mono ?_
    rintro e w17 ⟨rfl, b17⟩
    have B17 := B16.trans (b17.mono B16.size)
    clear oI16 i16 B16 b17 i0 i1 i2 i3
    go_wp2
    go_ret
    rw [← hG0'.out]
    exact ⟨rfl, B17⟩

/-! ### THE ROW's STEP: WRITTEN OUT: LEAVE IT -/
set_option maxRecDepth 100000 in
theorem lifted (os : Os) (started : os.Started) (H : Type) (enc : TypeId × Value → H) :
    ReturnsInHanded {} Try.checked os 6 .any (Rows.fnExactPowerUpSpec.pre6 enc Try.prog Try.f6 Rows.fnExactPowerUpRow.domain false) (Rows.fnExactPowerUpSpec.post enc Try.prog Try.f6 false true false false) := by
  refine returnsInHanded_of_change (C := Try.checked) own started (by kernel_rfl) Try.func6
    (ChangeSpec.witness6 (enc := enc) (C := Try.checked) false ⟨#[], #[.agg #[.slice none 0 0, .int .i64 0, .slice none 0 0, .bool false]], []⟩ 8 (by kernel_rfl) (by kernel_rfl) (by kernel_rfl) (by kernel_rfl)) ?_
  intro W base args ds gs before hval0 hW hcnd _
  have hval : ∀ (j : Nat) t v, Try.f6.params[j]? = some t → args[j]? = some v → Value.okWide Try.prog W .any base t v := hval0
  have hW' := hW
  obtain ⟨p, q, hA0, hV, rfl, hfz, hnd⟩ := hW
  have hA : DataW.TrodAll enc Try.prog W 0 (fun _ => true) true Try.f6.params.toList args.toList ds p := hA0
  rw [Try.params6] at hA hval
  obtain ⟨v0, vs0, d0, ds0, p0, q0, hargs, rfl, rfl, h0, r0⟩ := trodAll_cons hA
  obtain ⟨rfl, rfl, rfl⟩ := trodAll_nil r0
  obtain rfl : args = #[v0] := by cases args; simp_all
  obtain ⟨rfl, rfl⟩ := trodVars_none hV
  have k0 := h0
  have lt0 : ∀ x ∈ p0, x.block < W.heap.size := by obtain ⟨m, hm⟩ := k0; exact DataW.trod_lt m _ _ _ hm
  obtain ⟨x0, c0, rs0, o0, fa0, fc0, fs0, dn0, rfl, m0, i0, w0, fm0, fw0⟩ := open_dev (hval 0 41 v0 rfl rfl) h0
  clear hA0 hval0
  refine (walk x0 c0 rs0 o0 fa0 fc0 fs0 dn0 W m0 i0 w0 fm0 fw0).mono fun e W' ⟨he, bel⟩ => ?_
  subst he
  exact ⟨_, rfl, _, _, _, [], _, [], hW', trodAll_mk1 (shut_bool Try.underlying4 _), (trodAll_cons_mk (Below.trod laidOut (by kernel_rfl) (of_decide_eq_true (by kernel_rfl)) k0 bel lt0) trodAll_mk0), rfl, bel.frame _, fun h => by cases h⟩

theorem over : Rows.fnExactPowerUpRow.holds Try.pinned (OpenSpec.ofChange Rows.fnExactPowerUpSpec) :=
  OpenClaim.holds_of_wide 6 Try.f6 rfl rfl rfl rfl rfl rfl rfl ⟨rfl, rfl, rfl, rfl, rfl⟩ rfl rfl rfl rfl rfl (by kernel_rfl) Try.func6 (by kernel_rfl)
    (of_decide_eq_true (by kernel_rfl)) (by unfold Func.isWrapper; first | (rw [if_pos (by decide +kernel)]; kernel_rfl) | (rw [if_neg (by decide +kernel)]; exact ⟨rfl, rfl⟩))
    (fun os started H enc _ => lifted os started H enc)

/-- ████ THE STATEMENT ████ -/
theorem proved : Rows.FnExactPowerUpSaid := over
#print axioms proved
end Go.Proofs.Ytmjifealomgcfaa.fnExactPowerUp
