/-
  Joined: FnExactEraseW, ChOpen.
-/
import Derived.Test.YtghfopafmjkpdaaDoorJ22Q
import Derived.Test.YtghfopafmjkpdaaDoorJ23Q
import Derived.Test.YtghfopafmjkpdaaDoorJ05Q
namespace Go.Proofs.YtghfopafmjkpdaaDoor
section
open Go.RowKit
theorem totB_setL : ∀ (ds : List BkD) (k : Nat) (b' : BkD), totB (ds.set k b') ≤ totB ds + 1 + totP b'.ps
  | [], _, _ => by simp [totB]
  | d :: ds, 0, b' => by rw [List.set_cons_zero, totB_cons, totB_cons]; omega
  | d :: ds, k + 1, b' => by
    have := totB_setL ds k b'
    rw [List.set_cons_succ, totB_cons, totB_cons]
    omega
theorem eraseD_len (ok : Bool) (ds : List BkD) (x : Int) : (eraseD ok ds x).length = ds.length := by
  unfold eraseD
  split
  · unfold eraseAt; split <;> simp
  · rfl
theorem eraseD_tot (ok : Bool) (ds : List BkD) (x : Int) : totB (eraseD ok ds x) ≤ totB ds + 9 := by
  unfold eraseD
  split
  · unfold eraseAt
    split
    · rename_i b _
      have := totB_setL ds x.toNat ⟨List.replicate 8 ⟨false, []⟩, b.wear + 1, b.bad⟩
      have h8 : totP (List.replicate 8 (⟨false, []⟩ : PgD)) = 8 := rfl
      simp only [h8] at this
      omega
    · omega
  · omega
set_option maxRecDepth 100000 in
set_option maxHeartbeats 16000000 in
theorem walkFnExactErase (a : Option Addr) (cap : Nat) (bs : List BkR) (x0 : Int) (w : World) (hm : bs.length ≤ maxLen) (hi : ∀ r ∈ bs, BkIn r) (hr : RdBs w a bs) (_hwx : (Lit.int .i64 x0).wf = true) (hg : EtCell w) :
    Calls Tryd.prog 4 #[.agg #[.slice a bs.length cap], .int .i64 x0] w fun e w' => e = .returned (.bool true) ∧ Below w.heap.size w w' := by
  obtain ⟨n, hn⟩ : ∃ n, bs.length = n := ⟨_, rfl⟩
  rw [hn] at hm ⊢
  have B0 : Below w.heap.size w (w.alloc (.cells #[.slice a n cap] 24)) := (Below.refl _ w).alloc (Nat.le_refl _) _
  have z0 := Blk.new w 24 #[.slice a n cap]
  go_enter Tryd.func4, Tryd.ntmps4
  go_wp2_with fail
  obtain ⟨W0, hW0⟩ : ∃ W, w.alloc (.cells #[.slice a n cap] 24) = W := ⟨_, rfl⟩
  rw [hW0] at B0 z0 ⊢
  clear hW0
  refine (szChip_w a n cap 1048576 bs W0 hn hm (by omega) hi (hr.keep B0)).mono ?_
  rintro e w1 ⟨hsz, b1⟩
  have B1 := B0.trans (b1.mono B0.size)
  have z1 := z0.keep b1
  rcases hsz with rfl | ⟨x, hx, rfl, _⟩
  · go_wp2
    go_ret
    exact ⟨rfl, B1⟩
  have hx0 : ¬ (x : Int) < 0 := by omega
  have htot : Hid (totB (bs.map BkR.D) ≤ 1048576) := by show _ ≤ _; omega
  have HN : Hid ((bs.map BkR.D).length = n) := by show _ = _; simp [hn]
  have CA : Hid (∀ (W : World), RdBs W a bs → _) := fun (W : World) (h : RdBs W a bs) => toChip_any a n cap bs W hn htot.out h
  obtain ⟨dE, hdE⟩ : ∃ d, eraseD (chipOkB (bs.map BkR.D)) (bs.map BkR.D) x0 = d := ⟨_, rfl⟩
  obtain ⟨code, hcode⟩ : ∃ c, codeE (chipOkB (bs.map BkR.D)) (bs.map BkR.D) x0 = c := ⟨_, rfl⟩
  have HE : Hid (dE.length = n) := by show _ = _; rw [← hdE, eraseD_len]; exact HN.out
  have HT : Hid (totB dE ≤ 1048585) := by show _ ≤ _; rw [← hdE]; have := eraseD_tot (chipOkB (bs.map BkR.D)) (bs.map BkR.D) x0; have := htot.out; omega
  have cS : ∀ (W : World) (B g : Nat) (ts : List BkR), NewBs W B (.slice (some ⟨g, 0, none⟩) n n) (bs.map BkR.D) ts → Calls Tryd.prog 18 #[.agg #[.slice (some ⟨g, 0, none⟩) n n], .int .i64 x0] W fun e w' => ∃ a c qs, e = .returned (.tuple #[.agg #[.slice a n c], .int .i64 code]) ∧ NewBs w' W.heap.size (.slice a n c) dE qs ∧ Below W.heap.size W w' := fun W B g ts h => by
    have := eraseS (some ⟨g, 0, none⟩) n n ts x0 W ⟨by rw [h.len, HN.out], by rw [h.D]; exact htot.out, h.rd⟩
    rw [h.D, hdE, hcode] at this
    exact this.mono fun e w' hA => by
      obtain ⟨a, m, c, qs, e1, e2, e3, e4⟩ := hA
      have : m = n := by rw [← e3, e2.len, HE.out]
      subst this
      exact ⟨a, c, qs, e1, e2, e4⟩
  have cI : ∀ (W : World) (B g : Nat) (ts : List BkR), EtCell W → NewBs W B (.slice (some ⟨g, 0, none⟩) n n) (bs.map BkR.D) ts → Calls Tryd.prog 19 #[.agg #[.slice (some ⟨g, 0, none⟩) n n], .int .i64 x0] W fun e w' => ∃ a c qs, e = .returned (.tuple #[.agg #[.slice a n c], .int .i64 code]) ∧ NewBs w' W.heap.size (.slice a n c) dE qs ∧ Below W.heap.size W w' := fun W B g ts hE h => by
    have := eraseI (some ⟨g, 0, none⟩) n n ts x0 W ⟨by rw [h.len, HN.out], by rw [h.D]; exact htot.out, h.rd⟩ hE
    rw [h.D, hdE, hcode] at this
    exact this.mono fun e w' hA => by
      obtain ⟨a, m, c, qs, e1, e2, e3, e4⟩ := hA
      have : m = n := by rw [← e3, e2.len, HE.out]
      subst this
      exact ⟨a, c, qs, e1, e2, e4⟩
  have hcb : Hid (∀ ts : List BkR, ts.map BkR.D = bs.map BkR.D → 1 + cBs ts ≤ 9999990) := fun ts h => by
    have := cBs_le ts
    rw [h] at this
    have h2 := htot.out
    omega
  have hcbE : Hid (∀ ts : List BkR, ts.map BkR.D = dE → 1 + cBs ts ≤ 9999990) := fun ts h => by
    have := cBs_le ts
    rw [h] at this
    have h2 := HT.out
    omega
  have CS : Hid _ := cS
  have CI : Hid _ := cI
  have HG : Hid (EtCell w) := hg
  have HRA : Hid (RdBs w a bs) := hr
  have hoo : (code != code) = false := by simp
  clear cS cI hr hn hi hm B0 z0 b1 hdE hcode hg
  have q0 := z1.cell 0
  simp at q0
  obtain ⟨G0, hG0⟩ : ∃ G, w.heap.size = G := ⟨_, rfl⟩
  have hG0' : Hid (w.heap.size = G0) := hG0
  rw [hG0] at z1 q0 ⊢
  go_wp2_with fail
  refine (CA.out w1 (RdBs.keep HRA.out B1)).mono ?_
  rintro e w2 ⟨gA, tA, rfl, qA, b2⟩
  have B2 := B1.trans (b2.mono B1.size)
  have z2 := z1.keep b2
  have hz2 := z2.lt
  clear q0 z1 b2
  go_wp2_with fail
  refine (CS.out w2 _ gA tA qA).mono ?_
  rintro e w3 ⟨aS, cpS, tS, rfl, qS, b3⟩
  have B3 := B2.trans (b3.mono B2.size)
  have z3 := z2.keep b3
  have b3' : Below w3.heap.size w3 (w3.alloc (.cells #[.slice aS n cpS] 29)) := (Below.refl _ w3).alloc (Nat.le_refl _) _
  have s3 := Blk.new w3 29 #[.slice aS n cpS]
  have q0 := (z3.keep b3').cell 0
  simp at q0
  clear qA z2 b3
  go_wp2_with fail
  obtain ⟨W3, hW3⟩ : ∃ W, w3.alloc (.cells #[.slice aS n cpS] 29) = W := ⟨_, rfl⟩
  rw [hW3] at b3' s3 q0 ⊢
  clear hW3
  obtain ⟨GS, hGS⟩ : ∃ G, w3.heap.size = G := ⟨_, rfl⟩
  have hSl : Hid (∀ g ∈ fpBs (.slice aS n cpS) tS, G0 < g ∧ g < GS) := fun g hg => by
    have h1 := qS.new g hg
    have h2 := qS.own.lt g hg
    exact ⟨by omega, by omega⟩
  rw [hGS] at s3 ⊢
  have hG0S : G0 < GS := by have := z3.lt; omega
  have B3' := B3.trans (b3'.mono B3.size)
  have z3' := z3.keep b3'
  have qS3 := qS.keep b3'
  have hGS3 := s3.lt
  clear qS z3 b3' B3 hGS
  refine (CA.out W3 (RdBs.keep HRA.out B3')).mono ?_
  rintro e w4 ⟨gB, tB, rfl, qB, b4⟩
  have B4 := B3'.trans (b4.mono B3'.size)
  have z4 := z3'.keep b4
  have s4 := s3.keep b4
  have qS4 := qS3.keep b4
  have b5 : Below w4.heap.size w4 (w4.alloc (.cells #[.slice (some ⟨gB, 0, none⟩) n n] 29)) := (Below.refl _ w4).alloc (Nat.le_refl _) _
  have m5 := Blk.new w4 29 #[.slice (some ⟨gB, 0, none⟩) n n]
  clear q0 z3' b4 qS3 s3 B3'
  go_wp2_with fail
  obtain ⟨W5, hW5⟩ : ∃ W, w4.alloc (.cells #[.slice (some ⟨gB, 0, none⟩) n n] 29) = W := ⟨_, rfl⟩
  rw [hW5] at b5 m5 ⊢
  clear hW5
  obtain ⟨G4, hG4⟩ : ∃ G, w4.heap.size = G := ⟨_, rfl⟩
  have hBl : Hid (∀ g ∈ fpBs (.slice (some ⟨gB, 0, none⟩) n n) tB, GS < g ∧ g < G4) := fun g hg => by
    have h1 := qB.new g hg
    have h2 := qB.own.lt g hg
    exact ⟨by omega, by omega⟩
  rw [hG4] at m5 ⊢
  have hGS4 : GS < G4 := by have := s4.lt; omega
  have B5 := B4.trans (b5.mono B4.size)
  have z5 := z4.keep b5
  have s5 := s4.keep b5
  have qS5 := qS4.keep b5
  have qB5 := qB.keep b5
  have hG45 := m5.lt
  clear qB z4 s4 b5 qS4 B4 hG4
  refine (CI.out W5 _ gB tB (HG.out.keep B5) qB5).mono ?_
  rintro e w6 ⟨aI, cpI, tI, rfl, qI, b6⟩
  have B6 := B5.trans (b6.mono B5.size)
  have z6 := z5.keep b6
  have s6 := s5.keep b6
  have m6 := m5.keep b6
  have qB6 := qB5.keep b6
  have qS6 := qS5.keep b6
  have b6' : Below w6.heap.size w6 (w6.alloc (.cells #[.slice aI n cpI] 29)) := (Below.refl _ w6).alloc (Nat.le_refl _) _
  have i6 := Blk.new w6 29 #[.slice aI n cpI]
  have s0 := (s6.keep b6').cell 0
  simp at s0
  clear qB5 z5 m5 b6 qS5 s5 B5
  go_wp2_with fail
  obtain ⟨W6, hW6⟩ : ∃ W, w6.alloc (.cells #[.slice aI n cpI] 29) = W := ⟨_, rfl⟩
  rw [hW6] at b6' i6 s0 ⊢
  clear hW6 s0
  obtain ⟨GI, hGI⟩ : ∃ G, w6.heap.size = G := ⟨_, rfl⟩
  have hIl : Hid (∀ g ∈ fpBs (.slice aI n cpI) tI, G4 < g ∧ g < GI) := fun g hg => by
    have h1 := qI.new g hg
    have h2 := qI.own.lt g hg
    exact ⟨by omega, by omega⟩
  rw [hGI] at i6 ⊢
  have hG4I : G4 < GI := by have := m6.lt; omega
  have B6' := B6.trans (b6'.mono B6.size)
  have z6' := z6.keep b6'
  have s6' := s6.keep b6'
  have m6' := m6.keep b6'
  have qB6' := qB6.keep b6'
  have qS6' := qS6.keep b6'
  have qI6' := qI.keep b6'
  clear qB6 z6 m6 b6' qS6 s6 B6 qI hGI
  refine (eqNew HE.out (Nat.le_trans HT.out (by omega)) qI6' qS6').mono ?_
  rintro e w7 ⟨rfl, b7⟩
  have B7 := B6'.trans (b7.mono B6'.size)
  have z7 := z6'.keep b7
  have s7 := s6'.keep b7
  have m7 := m6'.keep b7
  have i7 := i6.keep b7
  have qB7 := qB6'.keep b7
  have qS7 := qS6'.keep b7
  have qI7 := qI6'.keep b7
  clear qB6' z6' m6' b7 qS6' s6' B6' qI6' i6
  have q0 := z7.cell 0
  have p0 := m7.cell 0
  simp at q0 p0
  have r7 := RdBs.keep HRA.out B7.drew
  have b7d := (Below.refl w7.heap.size w7).drew
  have qB7d := qB7.keep b7d
  have m7d := m7.keep b7d
  have HC7 : Hid (NewBs w7.drew W3.heap.size (.slice (some ⟨gB, 0, none⟩) n n) (bs.map BkR.D) tB ∧ NewBs w7.drew w2.heap.size (.slice aS n cpS) dE tS ∧ NewBs w7.drew W5.heap.size (.slice aI n cpI) dE tI ∧ Blk w7.drew G0 24 #[.slice a n cap] ∧ Blk w7.drew GS 29 #[.slice aS n cpS] ∧ Blk w7.drew G4 29 #[.slice (some ⟨gB, 0, none⟩) n n] ∧ Blk w7.drew GI 29 #[.slice aI n cpI] ∧ Below w.heap.size w w7.drew) := ⟨qB7d, qS7.keep b7d, qI7.keep b7d, z7.keep b7d, s7.keep b7d, m7d, i7.keep b7d, B7.drew⟩
  clear qB7 z7 m7 b7d B7 qS7 qI7 s7 i7
  go_wp2
  go_region_with (first
    | (go_at_call 10; (with_reducible refine (CA.out _ r7).mono ?_); rintro e wA ⟨gC, tC, rfl, qC, b9⟩; have qAA := qB7d.keep b9; have t0 := (m7d.keep b9).cell 0; simp at t0)
    | (go_at_call 13; refine (eqNew HN.out (Nat.le_trans htot.out (by omega)) qAA qC).mono ?_; rintro e w8 ⟨rfl, b10⟩))
  all_goals
    have b11 := b9.trans (b10.mono b9.size)
    obtain ⟨qB8, qS8, qI8, z8, s8, m8, i8, B8⟩ := HC7.out
    replace qB8 := qB8.keep b11
    replace qS8 := qS8.keep b11
    replace qI8 := qI8.keep b11
    replace z8 := z8.keep b11
    replace s8 := s8.keep b11
    replace m8 := m8.keep b11
    replace i8 := i8.keep b11
    replace B8 := B8.trans (b11.mono B8.size)
    clear b9 b10 b11 qC qAA r7 qB7d m7d q0 p0 HC7
    try clear t0
    have p0 := m8.cell 0
    simp at p0
    go_wp2_with fail
    have hcbo := hcb.out tB qB8.D
    refine (markCh_any (.slice (some ⟨gB, 0, none⟩) n n) 1 tB w8 (Nat.le_refl _) hcbo qB8.own qB8.nd).mono ?_
    rintro e w9 ⟨rfl, _, sv9⟩
    have qS9 := qS8.svs sv9 (fun g hg hf => by have := hSl.out g hg; have := hBl.out g hf; omega)
    have qI9 := qI8.svs sv9 (fun g hg hf => by have := hIl.out g hg; have := hBl.out g hf; omega)
    have z9 := Blk.svs z8 sv9 (fun hf => by have := hBl.out G0 hf; omega)
    have s9 := Blk.svs s8 sv9 (fun hf => by have := hBl.out GS hf; omega)
    have i9 := Blk.svs i8 sv9 (fun hf => by have := hBl.out GI hf; omega)
    have B9 : Below w.heap.size w w9 := Below.svs B8 sv9 (fun g hg => by have := hBl.out g hg; have := hG0'.out; omega) (Nat.le_refl _)
    obtain ⟨Q, hQ⟩ : ∃ Q, 1 + cBs tB = Q := ⟨_, rfl⟩
    rw [hQ]
    have hQ0 : ¬ (Q : Int) < 0 := by omega
    clear hQ hcbo sv9 qS8 qI8 z8 s8 m8 i8 B8 qB8 p0
    have s0 := s9.cell 0
    have i0 := i9.cell 0
    simp at s0 i0
    go_wp2_with fail
    refine (eqNew HE.out (Nat.le_trans HT.out (by omega)) qI9 qS9).mono ?_
    rintro e w10 ⟨rfl, b10⟩
    have qS10 := qS9.keep b10
    have qI10 := qI9.keep b10
    have z10 := z9.keep b10
    have s10 := s9.keep b10
    have i10 := i9.keep b10
    have B10 := B9.trans (b10.mono B9.size)
    clear qS9 qI9 z9 s9 i9 B9 b10 s0 i0
    have i0 := i10.cell 0
    simp at i0
    have hcbI := hcbE.out tI qI10.D
    go_wp2_with fail
    refine (markCh_any (.slice aI n cpI) 1 tI w10 (Nat.le_refl _) hcbI qI10.own qI10.nd).mono ?_
    rintro e w11 ⟨rfl, oI, sv11⟩
    have qS11 := qS10.svs sv11 (fun g hg hf => by have := hSl.out g hg; have := hIl.out g hf; omega)
    have z11 := Blk.svs z10 sv11 (fun hf => by have := hIl.out G0 hf; omega)
    have s11 := Blk.svs s10 sv11 (fun hf => by have := hIl.out GS hf; omega)
    have i11 := Blk.svs i10 sv11 (fun hf => by have := hIl.out GI hf; omega)
    have B11 : Below w.heap.size w w11 := Below.svs B10 sv11 (fun g hg => by have := hIl.out g hg; have := hG0'.out; omega) (Nat.le_refl _)
    obtain ⟨M, hM⟩ : ∃ M, 1 + cBs tI = M := ⟨_, rfl⟩
    have CH : Hid (∀ W : World, OwnBs W (.slice aI n cpI) (mkBs 1 tI) → Calls Tryd.prog 17 #[.agg #[.slice aI n cpI], .int .i64 1] W fun e w' => e = .returned (.int .i64 (M : Int)) ∧ Below W.heap.size W w') := fun W h => by
      have := heldCh_any (.slice aI n cpI) 1 tI W (Nat.le_refl _) hcbI h
      rw [hM] at this
      exact this
    rw [hM]
    have hM0 : ¬ (M : Int) < 0 := by omega
    have hMM : ((M : Int) != (M : Int)) = false := by simp
    clear hM hcbI sv11 qS10 qI10 z10 s10 i10 B10 i0
    have i0 := i11.cell 0
    simp at i0
    go_wp2_with fail
    refine (CH.out w11 oI).mono ?_
    rintro e w12 ⟨rfl, b12⟩
    have qS12 := qS11.keep b12
    have oI12 := oI.keep b12
    have z12 := z11.keep b12
    have s12 := s11.keep b12
    have i12 := i11.keep b12
    have B12 := B11.trans (b12.mono B11.size)
    clear qS11 oI z11 s11 i11 B11 b12 i0
    have q0 := z12.cell 0
    simp at q0
    go_wp2_with fail
    refine (CA.out w12 (RdBs.keep HRA.out B12)).mono ?_
    rintro e w13 ⟨gD, tD, rfl, qD, b13⟩
    have qS13 := qS12.keep b13
    have oI13 := oI12.keep b13
    have s13 := s12.keep b13
    have i13 := i12.keep b13
    have B13 := B12.trans (b13.mono B12.size)
    clear qS12 oI12 z12 s12 i12 B12 b13 q0
    go_wp2_with fail
    refine (CI.out w13 _ gD tD (HG.out.keep B13) qD).mono ?_
    rintro e w14 ⟨aJ, cpJ, tJ, rfl, qJ, b14⟩
    have qS14 := qS13.keep b14
    have oI14 := oI13.keep b14
    have s14 := s13.keep b14
    have i14 := i13.keep b14
    have B14 := B13.trans (b14.mono B13.size)
    have b15 : Below w14.heap.size w14 (w14.alloc (.cells #[.slice aJ n cpJ] 29)) := (Below.refl _ w14).alloc (Nat.le_refl _) _
    have s0 := (s14.keep b15).cell 0
    simp at s0
    clear qS13 oI13 s13 i13 B13 b14 qD
    go_wp2_with fail
    obtain ⟨W15, hW15⟩ : ∃ W, w14.alloc (.cells #[.slice aJ n cpJ] 29) = W := ⟨_, rfl⟩
    rw [hW15] at b15 s0 ⊢
    clear hW15 s0
    have qS15 := qS14.keep b15
    have qJ15 := qJ.keep b15
    have oI15 := oI14.keep b15
    have i15 := i14.keep b15
    have B15 := B14.trans (b15.mono B14.size)
    clear qS14 qJ oI14 s14 i14 B14 b15
    refine (eqNew HE.out (Nat.le_trans HT.out (by omega)) qJ15 qS15).mono ?_
    rintro e w16 ⟨rfl, b16⟩
    have oI16 := oI15.keep b16
    have i16 := i15.keep b16
    have B16 := B15.trans (b16.mono B15.size)
    clear qS15 qJ15 oI15 i15 B15 b16
    have i0 := i16.cell 0
    simp at i0
    go_wp2_with fail
    refine (CH.out w16 oI16).mono ?_
    rintro e w17 ⟨rfl, b17⟩
    have B17 := B16.trans (b17.mono B16.size)
    clear oI16 i16 B16 b17 i0
    go_wp2
    go_ret
    rw [← hG0'.out]
    exact ⟨rfl, B17⟩
end

section
open Go.ChangeShapes Go.WideShapes Go.ChangeAt Go.RowKit
section
variable {H : Type} {enc : TypeId × Value → H} {w : World} {base : Nat} {held : Bool}
theorem cells_row {a : Addr} {cs : List Value} {k : Nat} (h : w.cells? base a k = some cs) (_h1 : cs.length = k) : ∀ j, j < k → w.cell? (a.add j) = cs[j]? := by
  unfold World.cells? at h
  split at h
  · intro j hj
    have hm : ∀ (l : List Nat) (cs : List Value), l.mapM (fun i => w.cell? (a.add i)) = some cs → ∀ (i x : Nat), l[i]? = some x → w.cell? (a.add x) = cs[i]? := by
      intro l
      induction l with
      | nil => intro cs _ i x hx; simp at hx
      | cons y l ih =>
        intro cs hc i x hx
        simp only [List.mapM_cons, Option.bind_eq_bind, Option.pure_def, Option.bind_eq_some_iff, Option.some.injEq] at hc
        obtain ⟨v, hv, vs, hvs, rfl⟩ := hc
        cases i with
        | zero => simp at hx; subst hx; simpa using hv
        | succ i => simp at hx ⊢; exact ih vs hvs i x hx
    exact hm _ cs h j j (by simp [hj])
  · simp at h
theorem add_any (b o j : Nat) : (⟨b, o, none⟩ : Addr).add j = ⟨b, o + j, none⟩ := by
  unfold Addr.add
  split
  · rename_i h; rw [h]; rfl
  · simp
theorem list3 {α : Type} {l : List α} (h : l.length = 3) : ∃ a b c, l = [a, b, c] := by
  match l, h with
  | [a, b, c], _ => exact ⟨a, b, c, rfl⟩
theorem list1 {α : Type} {l : List α} (h : l.length = 1) : ∃ a, l = [a] := by
  match l, h with
  | [a], _ => exact ⟨a, rfl⟩
/-- A slice of elements that came in, opened. -/
theorem open_row {P : Program} {α : Type} [Inhabited α] (E : El α) (R rd : α → Prop) {t e : TypeId} {fuel : Nat} {cs : List Value} {x : DataW H × List MemPlace} (ht : P.underlying t = some (.slice e)) (hc : P.cellsOf e = E.k)
    (hel : ∀ n cs' y, DataW.trod enc P w base (fun _ => true) held n e cs' = some y → ∃ q, cs' = E.en q ∧ R q ∧ rd q)
    (h : DataW.trod enc P w base (fun _ => true) held fuel t cs = some x) :
    ∃ (a : Option Addr) (cap : Nat) (es : List α), cs = [.slice a es.length cap] ∧ es.length ≤ maxLen ∧ (∀ q ∈ es, R q) ∧ RdE E rd w a es := by
  rcases Deep.open_slice ht h with ⟨rfl, _⟩ | ⟨a, len, cap, m, n, D, Pl, rfl, _, hl, hm, hmm, _, hx⟩
  · exact ⟨none, 0, [], rfl, Nat.zero_le _, fun q hq => by simp at hq, .inl rfl⟩
  · simp only [if_true] at hmm
    subst hmm
    rw [hc] at hx
    obtain ⟨f, hf⟩ := Deep.choose_lt (α := α) (n := len) (p := fun i q => (∀ j, j < E.k → w.cell? ((a.add (i * E.k)).add j) = (E.en q)[j]?) ∧ R q ∧ rd q) (fun i hi => by
      obtain ⟨cs', h1, h2⟩ := hx i (by omega)
      obtain ⟨q, hq, hR⟩ := hel n cs' _ h2
      have := cells_row h1 (by rw [hq]; exact E.len q)
      rw [hq] at this
      exact ⟨q, this, hR⟩)
    refine ⟨some a, m, (List.range len).map f, by simp, by simp; omega, ?_, ?_⟩
    · intro q hq
      obtain ⟨i, hi, rfl⟩ := List.mem_map.1 hq
      exact (hf i (List.mem_range.1 hi)).2.1
    · by_cases h0 : len = 0
      · subst h0; exact .inl rfl
      · obtain ⟨b, off, spot⟩ := a
        have hc0 := (hf 0 (by omega)).1 0 E.pos
        have hspot : spot = none := by
          have hp := E.pos
          have hl := E.len (f 0)
          rw [List.getElem?_eq_getElem (by omega)] at hc0
          simpa [Addr.add] using World.cell?_spot hc0
        subst hspot
        refine .inr ⟨b, off, rfl, fun i r hi => ?_⟩
        obtain ⟨hi', hr'⟩ := List.getElem?_eq_some_iff.1 hi
        simp only [List.length_map, List.length_range] at hi'
        simp at hr'
        subst hr'
        obtain ⟨k0, _, hR⟩ := hf i hi'
        refine ⟨fun j hj => ?_, hR⟩
        have := k0 j hj
        rw [add_any, add_any] at this
        exact this
instance instPgR : Inhabited PgR := ⟨⟨false, none, 0, []⟩⟩
instance instBkR : Inhabited BkR := ⟨⟨none, 0, [], 0, false⟩⟩
set_option maxRecDepth 100000 in
set_option maxHeartbeats 1000000 in
theorem open_pages {fuel : Nat} {cs : List Value} {x : DataW H × List MemPlace} (h : DataW.trod enc Tryd.prog w base (fun _ => true) held fuel 80 cs = some x) :
    ∃ (a : Option Addr) (cap : Nat) (es : List PgR), cs = [.slice a es.length cap] ∧ es.length ≤ maxLen ∧ (∀ q ∈ es, PgIn q) ∧ RdPs w a es := by
  refine open_row pgE PgIn (fun p => Rd w p.a p.zs) Tryd.underlying80 (by kernel_rfl) ?_ h
  intro n cs' y hy
  obtain ⟨y0, y1, n', _, hcl, g0, g1⟩ := trod_struct2 Tryd.underlying118 hy
  have hc2 : Tryd.prog.cellsOf 118 = 2 := by kernel_rfl
  have k4 : Tryd.prog.cellsOf 4 = 1 := by kernel_rfl
  have k5 : Tryd.prog.cellsOf 25 = 1 := by kernel_rfl
  rw [hc2] at hcl
  obtain ⟨u0, u1, rfl⟩ := list2 hcl
  simp [k4, k5] at g0 g1
  obtain ⟨u, e0, _⟩ := DataW.trod_bool Tryd.underlying4 g0
  obtain ⟨a1, n1, c1, zs, e3, m1, l1, r1, b1⟩ : ∃ (a1 : Option Addr) (n1 c1 : Nat) (zs : List Int), [u1] = [.slice a1 n1 c1] ∧ n1 ≤ maxLen ∧ zs.length = n1 ∧ Rd w a1 zs ∧ Byt zs := by
    rcases open_ints Tryd.underlying25 Tryd.underlying5 (by kernel_rfl) g1 with ⟨hcs, _⟩ | ⟨x, l, c, zs, hcs, _, hl, hm, hz, _, hcell, hwz⟩
    · exact ⟨none, 0, 0, [], hcs, Nat.zero_le _, rfl, .inl rfl, fun z hz => by simp at hz⟩
    · obtain ⟨ys, hy, hr, hb⟩ := rd_of_row (w := w) (a := some x) (len := l) (cap := c) (zs := zs) (.inr ⟨x, rfl, hl, hm, by simpa using hz, hcell, hwz⟩)
      exact ⟨some x, l, c, ys, hcs, Nat.le_trans hl hm, hy, hr, hb⟩
  simp only [List.cons.injEq, and_true] at e0 e3
  subst e0 e3 l1
  exact ⟨⟨u, a1, c1, zs⟩, rfl, ⟨m1, b1⟩, r1⟩
set_option maxRecDepth 100000 in
set_option maxHeartbeats 1000000 in
theorem open_blocks {fuel : Nat} {cs : List Value} {x : DataW H × List MemPlace} (h : DataW.trod enc Tryd.prog w base (fun _ => true) held fuel 22 cs = some x) :
    ∃ (a : Option Addr) (cap : Nat) (es : List BkR), cs = [.slice a es.length cap] ∧ es.length ≤ maxLen ∧ (∀ q ∈ es, BkIn q) ∧ RdBs w a es := by
  refine open_row bkE BkIn (fun b => RdPs w b.a b.ps) Tryd.underlying22 (by kernel_rfl) ?_ h
  intro n cs' y hy
  obtain ⟨xs, n, _, _, hl, hlen, hfld⟩ := DataW.trod_struct Tryd.underlying82 hy
  have hC : Tryd.prog.cellsOf 82 = 3 := by kernel_rfl
  have k3 : Tryd.prog.cellsOf 3 = 1 := by kernel_rfl
  have k4 : Tryd.prog.cellsOf 4 = 1 := by kernel_rfl
  have kP : Tryd.prog.cellsOf 80 = 1 := by kernel_rfl
  rw [hC] at hl
  obtain ⟨v0, v1, v2, rfl⟩ := list3 hl
  obtain ⟨y0, y1, y2, rfl⟩ := list3 hlen
  have f0 := hfld 0 _ rfl
  have f1 := hfld 1 _ rfl
  have f2 := hfld 2 _ rfl
  simp [k3, k4, kP] at f0 f1 f2
  obtain ⟨a, cap, es, e0, hm, hI, hR⟩ := open_pages f0
  obtain ⟨wear, e1, _, w1⟩ := DataW.trod_int Tryd.underlying3 f1
  obtain ⟨bad, e2, _⟩ := DataW.trod_bool Tryd.underlying4 f2
  simp only [List.cons.injEq, and_true] at e0 e1 e2
  subst e0 e1 e2
  exact ⟨⟨a, cap, es, wear, bad⟩, rfl, ⟨w1, hm, hI⟩, hR⟩
set_option maxRecDepth 100000 in
theorem open_chip {base' : Nat} {v : Value} {d : DataW H} {p : List MemPlace} (hv : Value.okWide Tryd.prog w .any base' 24 v) (h : DataW.Trod enc Tryd.prog w base (fun _ => true) held 24 v d p) :
    ∃ (a : Option Addr) (cap : Nat) (bs : List BkR), v = .agg #[.slice a bs.length cap] ∧ bs.length ≤ maxLen ∧ (∀ r ∈ bs, BkIn r) ∧ RdBs w a bs := by
  obtain ⟨cs, rfl, hsz⟩ := okWide_struct Tryd.underlying24 hv
  obtain ⟨fuel, hf⟩ := h
  obtain ⟨xs, n, _, _, hl, hlen, hfld⟩ := DataW.trod_struct Tryd.underlying24 hf
  have hC : Tryd.prog.cellsOf 24 = 1 := by kernel_rfl
  have kB : Tryd.prog.cellsOf 22 = 1 := by kernel_rfl
  rw [hC] at hsz
  obtain ⟨l⟩ := cs
  simp only [List.size_toArray] at hsz
  obtain ⟨v0, rfl⟩ := list1 hsz
  obtain ⟨y0, rfl⟩ := list1 hlen
  have f0 := hfld 0 _ rfl
  simp [Value.cells, kB] at f0
  obtain ⟨a, cap, es, e0, hm, hI, hR⟩ := open_blocks f0
  simp only [List.cons.injEq, and_true] at e0
  subst e0
  exact ⟨a, cap, es, rfl, hm, hI, hR⟩
end
end
end Go.Proofs.YtghfopafmjkpdaaDoor
