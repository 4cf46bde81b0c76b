/-
  Joined: OpW, MpP.
-/
import Derived.Test.YtjaicciilehlnaaJ16S
import Derived.Test.YtjaicciilehlnaaJ12S
namespace Go.Proofs.Ytjaicciilehlnaa
section
open Go.RowKit
theorem RowB.keep {w w' : World} {v : Value} {n : Nat} {zs : List Int} (h : RowB w v n zs) (hb : Below w.heap.size w w') : RowB w' v n zs := h.block fun g hg => hb.block g (h.at_ hg).1
theorem RowB.gr {w w' : World} {v : Value} {n : Nat} {zs : List Int} {r : Option Nat} (h : RowB w v n zs) (hg : w.grownBy w' r) (hne : ∀ g, v.ownBlock = some g → some g ≠ r) : RowB w' v n zs := h.block fun g hv => hg.block g (h.at_ hv).1 (hne g hv)
theorem RowB.rd {w : World} {a : Option Addr} {c n : Nat} {zs : List Int} (h : RowB w (.slice a n c) n zs) : Rd w a zs := by
  obtain ⟨a', c', e, hr⟩ := h.form
  simp only [Value.slice.injEq, true_and] at e
  obtain ⟨rfl, _⟩ := e
  exact hr
theorem Own.rowB {w : World} {g n c : Nat} {zs : List Int} (h : Own w g n c zs) : RowB w (.slice (some ⟨g, 0, none⟩) n c) n zs := OwnV.rowB (B := 0) h
/-- What was changed lies at or behind B. -/
theorem below_gro {B : Nat} {w0 w w' : World} {r : Option Nat} (h : Below B w0 w) (hB : B ≤ w0.heap.size) (hg : w.grownBy w' r) (hr : ∀ g, r = some g → B ≤ g) : Below B w0 w' := h.grown hg (Nat.le_trans hB h.size) hr
/-- The bytes that are put: none, if there are none. -/
def opPut (D : OpD) : List Int := if opOk D = true then opEnc D else []
theorem opPut_len (D : OpD) (h : OpSmall D) : (opPut D).length ≤ 1048600 := by
  unfold opPut
  split
  · exact opEnc_len D h
  · simp
end

section
open Go.RowKit
/-- The bytes of the first k places of a map. -/
def mpT (nx : Int) (n : Nat) (ps : List PlD) (k : Nat) : List Int := encs [nx, (n : Int)] ++ (ps.take k).flatMap fun p => encs [p.ino, p.adr]
/-- The bytes of a map. -/
def mpEnc (nx : Int) (ps : List PlD) : List Int := encs [nx, (ps.length : Int)] ++ ps.flatMap fun p => encs [p.ino, p.adr]
theorem mpT_zero (nx : Int) (n : Nat) (ps : List PlD) : mpT nx n ps 0 = encs [nx, (n : Int)] := by simp [mpT]
theorem mpT_all (nx : Int) (n : Nat) (ps : List PlD) (h : ps.length = n) : mpT nx n ps n = mpEnc nx ps := by subst h; simp [mpT, mpEnc]
theorem mpT_succ {nx : Int} {n : Nat} {ps : List PlD} {k : Nat} {r : PlD} (h : ps[k]? = some r) : mpT nx n ps (k + 1) = mpT nx n ps k ++ encs [r.ino, r.adr] := by
  unfold mpT
  rw [List.take_add_one, h]
  simp
theorem mpT_len (nx : Int) (n : Nat) (ps : List PlD) (k : Nat) : (mpT nx n ps k).length ≤ 8 + 8 * k := by
  induction k with
  | zero => rw [mpT_zero]; have := encs_len2 nx (n : Int); omega
  | succ k ih =>
    cases h : ps[k]? with
    | none =>
      have : mpT nx n ps (k + 1) = mpT nx n ps k := by unfold mpT; rw [List.take_add_one, h]; simp
      rw [this]; omega
    | some r =>
      rw [mpT_succ h, List.length_append]
      have := encs_len2 r.ino r.adr
      omega
theorem mpB_len {nx : Int} {ps : List PlD} (h : mpB nx ps = true) : ps.length ≤ 30 := by
  unfold mpB at h
  simp only [Bool.and_eq_true, decide_eq_true_eq] at h
  exact h.2.1
theorem mpEnc_ne (nx : Int) (ps : List PlD) : (mpEnc nx ps).length ≠ 0 := by
  unfold mpEnc
  rw [List.length_append]
  have := encPos nx
  simp only [encs, List.flatMap_cons, List.length_append]
  omega
set_option maxRecDepth 100000 in
set_option maxHeartbeats 4000000 in
theorem putMapI_yes (nx : Int) (a : Option Addr) (n cap : Nat) (ps : List PlD) (w : World) (hf : PR w a n ps) (hok : mpB nx ps = true) :
    Calls Try.prog 10 #[.agg #[.int .i64 nx, .slice a n cap]] w (PutPost w (mpEnc nx ps).length (mpEnc nx ps)) := by
  have hn30 : n ≤ 30 := by have := mpB_len hok; rw [hf.len] at this; exact this
  have B0 : Below w.heap.size w (w.alloc (.cells #[.int .i64 nx, .slice a n cap] 26)) := (Below.refl _ w).alloc (Nat.le_refl _) _
  have z0 := Blk.new w 26 #[.int .i64 nx, .slice a n cap]
  have cF := mapOkI nx a n cap ps _ (hf.keep B0)
  rw [hok] at cF
  have HLn : Hid (ps.length = n) := hf.len
  have HPR : Hid (PR w a n ps) := hf
  have HE : Hid (mpT nx n ps n = mpEnc nx ps) := mpT_all nx n ps hf.len
  have HNE := mpEnc_ne nx ps
  generalize mpEnc nx ps = Y at HE HNE
  clear hf hok
  go_enter Try.func10, Try.ntmps10
  go_wp2_with fail
  refine cF.mono ?_
  rintro e w1 ⟨rfl, b1⟩
  have B1 := B0.trans (b1.mono B0.size)
  have z1 := z0.keep b1
  have q0 := z1.cell 0
  have q1 := z1.cell 1
  simp at q0 q1
  have hb1 := B1.size
  clear B0 z0 b1 cF
  go_wp2_with fail
  refine (putNums_many w1.heap.size _ 0 [] [nx, (n : Int)] w1.heap.size 2 _ rfl (by omega) (by omega) (by simp) (ownV_nil _ _) (Blk.new w1 3 _)).mono ?_
  rintro e w2 ⟨v2, rfl, o2, t2, kp2⟩
  rw [List.nil_append] at o2
  have T2 : Below w1.heap.size w1 w2 := (kp_b (Nat.le_refl _) (Below.refl _ _) _).trans t2
  have z2 := z1.keep T2
  clear q0 q1 t2 kp2
  have q1 := z2.cell 1
  simp at q1
  have HT0 : Hid (encs [nx, (n : Int)] = mpT nx n ps 0) := (mpT_zero nx n ps).symm
  have hL0 := encs_len2 nx (n : Int)
  generalize encs [nx, (n : Int)] = A2 at o2 HT0 hL0
  have HB1 : Hid (Below w.heap.size w w1) := B1
  have HT2 : Hid (Below w1.heap.size w1 w2) := T2
  clear B1 T2 z1 z2
  go_wp2
  go_loopw [3, 19] (fun u i wr => ∃ (k : Nat) (acc : List Int), k ≤ n ∧ i = .int .i64 k ∧ Hid (OwnV w1.heap.size wr u acc.length acc) ∧ Hid (acc = mpT nx n ps k) ∧ acc.length ≤ 8 + 8 * k ∧ Hid (Below w1.heap.size w1 wr)) (fun _ i _ => n - (intOf i).toNat)
  case atStart => exact ⟨0, A2, Nat.zero_le _, rfl, o2, HT0, by omega, HT2⟩
  case round =>
    obtain ⟨k, acc, hk, rfl, ho, hacc, hlen, hB⟩ := hrel
    clear o2 HT0 hL0 HT2 q1
    by_cases hkn : k < n
    · have hki : (k : Int) < (n : Int) := by omega
      obtain ⟨b, off, r, rfl, hlt, hrk, x0, x1⟩ := (HPR.out.keep (HB1.out.trans (hB.out.mono hb1))).some hkn
      have hnx : Hid (acc ++ encs [r.ino, r.adr] = mpT nx n ps (k + 1)) := by show _ = _; rw [mpT_succ hrk, hacc.out]
      have hL := encs_len2 r.ino r.adr
      obtain ⟨t, u⟩ := r
      dsimp only at x0 x1 hnx hL
      have hsz := hB.out.size
      have hcall := putNums_many w1.heap.size u3 acc.length acc [t, u] (wr.heap.size + 1) 2 ((wr.alloc (.cells #[.int .i64 t, .int .i64 u] 36)).alloc (.cells #[.int .i64 t, .int .i64 u] 3)) rfl (by omega) (by omega) (by simp; omega) ((ho.out.alloc _).alloc _) (Blk.newAt (by simp))
      have hBW : Hid (Below w1.heap.size w1 ((wr.alloc (.cells #[.int .i64 t, .int .i64 u] 36)).alloc (.cells #[.int .i64 t, .int .i64 u] 3))) := (hB.out.alloc hsz _).alloc (by simp; omega) _
      clear hrk hacc ho hB
      go_wp2_with fail
      refine hcall.mono ?_
      rintro e w3 ⟨v3, rfl, o3, t3, kp3⟩
      have HO : Hid _ := o3
      clear hcall kp3 o3 x0 x1
      go_wp2
      go_roundw
      case rel => exact ⟨k + 1, acc ++ encs [t, u], by omega, by go_num, HO.out, hnx, by rw [List.length_append]; omega, hBW.out.trans t3⟩
      case measure => simp [intOf]; omega
    · have hki : ¬ (k : Int) < (n : Int) := by omega
      obtain rfl : k = n := by omega
      have he : acc = Y := hacc.out.trans HE.out
      subst he
      obtain ⟨g, cg, rfl, hg, hown⟩ := ho.out.some HNE
      go_wp2
      go_ret
      exact ⟨g, cg, rfl, by omega, hown, HB1.out.trans (hB.out.mono hb1)⟩
set_option maxHeartbeats 1000000 in
theorem putMapI_no (nx : Int) (a : Option Addr) (n cap : Nat) (ps : List PlD) (w : World) (hf : PR w a n ps) (hok : mpB nx ps = false) :
    Calls Try.prog 10 #[.agg #[.int .i64 nx, .slice a n cap]] w fun e w' => e = .returned (.slice none 0 0) ∧ Below w.heap.size w w' := by
  have B0 : Below w.heap.size w (w.alloc (.cells #[.int .i64 nx, .slice a n cap] 26)) := (Below.refl _ w).alloc (Nat.le_refl _) _
  have cF := mapOkI nx a n cap ps _ (hf.keep B0)
  rw [hok] at cF
  clear hf hok
  go_enter Try.func10, Try.ntmps10
  go_wp2_with fail
  refine cF.mono ?_
  rintro e w1 ⟨rfl, b1⟩
  go_wp2
  go_ret
  exact ⟨rfl, B0.trans (b1.mono B0.size)⟩
set_option maxRecDepth 100000 in
set_option maxHeartbeats 8000000 in
theorem putMapS_yes (nx : Int) (a : Option Addr) (n cap : Nat) (ps : List PlD) (w : World) (hf : PR w a n ps) (hok : mpB nx ps = true) :
    Calls Try.prog 21 #[.agg #[.int .i64 nx, .slice a n cap]] w (PutPost w (mpEnc nx ps).length (mpEnc nx ps)) := by
  have hn30 : n ≤ 30 := by have := mpB_len hok; rw [hf.len] at this; exact this
  have B0 : Below w.heap.size w (w.alloc (.cells #[.int .i64 nx, .slice a n cap] 26)) := (Below.refl _ w).alloc (Nat.le_refl _) _
  have z0 := Blk.new w 26 #[.int .i64 nx, .slice a n cap]
  have cF := mapOkS nx a n cap ps _ (hf.keep B0)
  rw [hok] at cF
  have HPR : Hid (PR w a n ps) := hf
  have HE : Hid (mpT nx n ps n = mpEnc nx ps) := mpT_all nx n ps hf.len
  have L1 := enc_len nx
  have n1 : ∀ (W : World) (ad : Addr), Calls Try.prog 44 #[.slice (some ad) 0 0, .int .i64 nx] W (PutPost W (enc nx).length (enc nx)) := fun W ad => specNum0 ad nx W
  have n2 : ∀ (W : World) (g c : Nat), Own W g (enc nx).length c (enc nx) → Calls Try.prog 44 #[.slice (some ⟨g, 0, none⟩) (enc nx).length c, .int .i64 (n : Int)] W (PutPost W (enc nx ++ enc (n : Int)).length (enc nx ++ enc (n : Int))) := fun W g c h => specNumB g c _ (n : Int) W (by omega) h
  have HT0 : Hid (enc nx ++ enc (n : Int) = mpT nx n ps 0) := by show _ = _; rw [mpT_zero]; simp [encs]
  have hL0 : (enc nx ++ enc (n : Int)).length ≤ 8 := by rw [List.length_append]; have := enc_len (n : Int); omega
  generalize mpEnc nx ps = Y at HE ⊢
  generalize enc nx ++ enc (n : Int) = Y2 at n2 HT0 hL0
  generalize enc nx = Y1 at n1 n2 L1
  clear hf hok
  obtain ⟨H, hH⟩ : ∃ H, w.heap.size = H := ⟨_, rfl⟩
  go_enter Try.func21, Try.ntmps21
  go_wp2_with fail
  refine cF.mono ?_
  rintro e w1 ⟨rfl, b1⟩
  have B1 := B0.trans (b1.mono B0.size)
  have z1 : Blk w1 H 26 #[.int .i64 nx, .slice a n cap] := by have := z0.keep b1; rw [hH] at this; exact this
  have hb1 := B1.size
  clear B0 z0 b1 cF
  have bX : Below w1.heap.size w1 (w1.alloc (.cells #[] 5)).drew := ((Below.refl _ w1).alloc (Nat.le_refl _) _).drew
  have bX' : Below w1.heap.size w1 (w1.alloc (.cells #[] 5)) := (Below.refl _ w1).alloc (Nat.le_refl _) _
  have zX := z1.keep bX
  have zX' := z1.keep bX'
  obtain ⟨q0, q1⟩ : _ ∧ _ := ⟨z1.cell 0, z1.cell 1⟩
  obtain ⟨j0, j1⟩ : _ ∧ _ := ⟨zX'.cell 0, zX'.cell 1⟩
  simp at q0 q1 j0 j1
  have HB1 : Hid (Below w.heap.size w w1) := B1
  have HZ1 : Hid (Blk w1 H 26 #[.int .i64 nx, .slice a n cap]) := z1
  clear B1 z1 zX'
  go_upto_region 3 with fail
  go_cut [3] (fun s wx => ∃ g c, s = .slice (some ⟨g, 0, none⟩) Y2.length c ∧ w1.heap.size ≤ g ∧ Own wx g Y2.length c Y2 ∧ Below w1.heap.size w1 wx)
  case first =>
    go_region_held3 (fun W : World => W.cell? ⟨H, 0, none⟩ = some (.int .i64 nx) ∧ W.cell? ⟨H, 1, none⟩ = some (.slice a n cap)) (go_keep) (first
      | (go_at_call 44; (with_reducible refine (n1 _ _).mono ?_); rintro e wA ⟨gA, cA, rfl, hgA, oA, bA⟩; have zA := zX.keep bA; have tA := bX.trans (bA.mono bX.size); obtain ⟨s0, s1⟩ : _ ∧ _ := ⟨zA.cell 0, zA.cell 1⟩; simp at s0 s1)
      | (go_at_call 44; (with_reducible refine (n2 wA gA cA oA).mono ?_); rintro e wB ⟨gB, cB, rfl, hgB, oB, bB⟩; have zB := zA.keep bB; obtain ⟨t0, t1⟩ : _ ∧ _ := ⟨zB.cell 0, zB.cell 1⟩; simp at t0 t1))
    all_goals (go_wp2_with fail; go_meet; exact ⟨gB, cB, rfl, Nat.le_trans tA.size hgB, oB, tA.trans (bB.mono tA.size)⟩)
  case rest =>
  obtain ⟨g, cg, rfl, hg, o2, T2⟩ := hcut
  obtain ⟨w2, hwc⟩ : ∃ W, W = wc := ⟨_, rfl⟩
  subst hwc
  clear n1 n2 q0 q1 zX bX bX' j0 j1
  have HO2 : Hid (Own w2 g Y2.length cg Y2) := o2
  have HT2 : Hid (Below w1.heap.size w1 w2) := T2
  clear o2 T2
  go_wp2
  go_loopw [3, 4] (fun u i wr => ∃ (k : Nat) (acc : List Int) (g c : Nat), k ≤ n ∧ i = .int .i64 k ∧ u = .slice (some ⟨g, 0, none⟩) acc.length c ∧ w1.heap.size ≤ g ∧ Hid (Own wr g acc.length c acc) ∧ Hid (acc = mpT nx n ps k) ∧ acc.length ≤ 8 + 8 * k ∧ Hid (Below w1.heap.size w1 wr)) (fun _ i _ => n - (intOf i).toNat)
  case atStart => exact ⟨0, Y2, g, cg, Nat.zero_le _, rfl, rfl, hg, HO2, HT0, by omega, HT2⟩
  case round =>
    obtain ⟨k, acc, g1, c1, hk, rfl, rfl, hg1, ho, hacc, hlen, hB⟩ := hrel
    clear HO2 HT0 hL0 HT2 hg
    have zr := HZ1.out.keep hB.out
    have m1 := zr.cell 1
    simp at m1
    by_cases hkn : k < n
    · have hki : (k : Int) < (n : Int) := by omega
      obtain ⟨b, off, r, rfl, hlt, hrk, x01⟩ := (HPR.out.keep (HB1.out.trans (hB.out.mono hb1))).some hkn
      have hnx : Hid (acc ++ enc r.ino ++ enc r.adr = mpT nx n ps (k + 1)) := by show _ = _; rw [mpT_succ hrk, hacc.out]; simp [encs]
      have hL1 := enc_len r.ino
      have hL2 := enc_len r.adr
      obtain ⟨t, u⟩ := r
      dsimp only at hnx hL1 hL2
      have hsz := hB.out.size
      have n1 : ∀ (W : World), Own W g1 acc.length c1 acc → Calls Try.prog 44 #[.slice (some ⟨g1, 0, none⟩) acc.length c1, .int .i64 t] W (PutPost W (acc ++ enc t).length (acc ++ enc t)) := fun W h => specNumB g1 c1 _ t W (by omega) h
      have n2 : ∀ (W : World) (g c : Nat), Own W g (acc ++ enc t).length c (acc ++ enc t) → Calls Try.prog 44 #[.slice (some ⟨g, 0, none⟩) (acc ++ enc t).length c, .int .i64 u] W (PutPost W (acc ++ enc t ++ enc u).length (acc ++ enc t ++ enc u)) := fun W g c h => specNumB g c _ u W (by rw [List.length_append]; omega) h
      have hLL : (acc ++ enc t ++ enc u).length ≤ 8 + 8 * (k + 1) := by rw [List.length_append, List.length_append]; omega
      have od : Own wr.drew g1 acc.length c1 acc := ho.out
      generalize acc ++ enc t ++ enc u = A3 at hnx n2 hLL
      generalize acc ++ enc t = A2 at n1 n2
      have hBD : Below w1.heap.size w1 wr.drew := hB.out.drew
      have xd : TwoL wr.drew b (off + k * 2) ⟨t, u⟩ := ⟨x01.c0, x01.c1⟩
      obtain ⟨x0, x1⟩ := x01
      have HX : Hid (∀ W : World, Below wr.drew.heap.size wr.drew W → W.cell? ⟨H, 1, none⟩ = some (.slice (some ⟨b, off, none⟩) n cap) ∧ W.cell? ⟨b, off + k * 2, none⟩ = some (.int .i64 t) ∧ W.cell? ⟨b, off + k * 2 + 1, none⟩ = some (.int .i64 u)) := fun W hW => by
        have zz := (show Blk wr.drew H 26 #[.int .i64 nx, .slice (some ⟨b, off, none⟩) n cap] from zr).keep hW
        have y1 := zz.cell 1
        simp at y1
        have tt := xd.keep hW hlt
        exact ⟨y1, tt.c0, tt.c1⟩
      clear hrk hacc hL1 hL2 zr xd
      go_upto_region 7 with fail
      go_region_held3 (fun W : World => W.cell? ⟨H, 1, none⟩ = some (.slice (some ⟨b, off, none⟩) n cap) ∧ W.cell? ⟨b, off + k * 2, none⟩ = some (.int .i64 t) ∧ W.cell? ⟨b, off + k * 2 + 1, none⟩ = some (.int .i64 u)) (go_keep) (first
        | (go_at_call 44; (with_reducible refine (n1 wr.drew od).mono ?_); rintro e wA ⟨gA, cA, rfl, hgA, oA, bA⟩; have tA := hBD.trans (bA.mono hBD.size); obtain ⟨s0, s1, s2⟩ := HX.out wA bA)
        | (go_at_call 44; (with_reducible refine (n2 wA gA cA oA).mono ?_); rintro e wB ⟨gB, cB, rfl, hgB, oB, bB⟩; have tB := tA.trans (bB.mono tA.size); obtain ⟨t0, t1, t2⟩ := HX.out wB (bA.trans (bB.mono bA.size))))
      all_goals (have HO : Hid (Own wB gB A3.length cB A3) := oB; have HT3 : Hid (Below w1.heap.size w1 wB) := tB; have hgB' : w1.heap.size ≤ gB := Nat.le_trans tA.size hgB; clear n1 n2 x0 x1 m1 od hBD oA oB tA tB bA bB hgA hgB)
      all_goals go_wp2
      all_goals go_roundw
      all_goals first
        | (case rel => exact ⟨k + 1, A3, gB, cB, by omega, by go_num, rfl, hgB', HO, hnx, hLL, HT3⟩)
        | (case rel => (repeat apply Exists.intro); exact ⟨⟨k + 1, A3, gB, cB, by omega, by go_num, rfl, hgB', HO, hnx, hLL, HT3⟩, rfl⟩)
        | (case measure => simp [intOf]; omega)
    · have hki : ¬ (k : Int) < (n : Int) := by omega
      obtain rfl : k = n := by omega
      have he : acc = Y := hacc.out.trans HE.out
      subst he
      go_wp2
      go_ret
      exact ⟨g1, c1, rfl, by omega, ho.out, HB1.out.trans (hB.out.mono hb1)⟩
set_option maxHeartbeats 1000000 in
theorem putMapS_no (nx : Int) (a : Option Addr) (n cap : Nat) (ps : List PlD) (w : World) (hf : PR w a n ps) (hok : mpB nx ps = false) :
    Calls Try.prog 21 #[.agg #[.int .i64 nx, .slice a n cap]] w fun e w' => ∃ g : Nat, e = .returned (.slice (some ⟨g, 0, none⟩) 0 0) ∧ Below w.heap.size w w' := by
  have B0 : Below w.heap.size w (w.alloc (.cells #[.int .i64 nx, .slice a n cap] 26)) := (Below.refl _ w).alloc (Nat.le_refl _) _
  have cF := mapOkS nx a n cap ps _ (hf.keep B0)
  rw [hok] at cF
  clear hf hok
  go_enter Try.func21, Try.ntmps21
  go_wp2_with fail
  refine cF.mono ?_
  rintro e w1 ⟨rfl, b1⟩
  go_wp2
  go_ret
  exact ⟨w1.heap.size, rfl, (B0.trans (b1.mono B0.size)).alloc (B0.trans (b1.mono B0.size)).size _⟩
/-- The bytes that are put: none, if it is not right. -/
def mpPut (nx : Int) (ps : List PlD) : List Int := if mpB nx ps = true then mpEnc nx ps else []
theorem mpEnc_len (nx : Int) (ps : List PlD) : (mpEnc nx ps).length ≤ 8 + 8 * ps.length := by
  rw [← mpT_all nx _ ps rfl]; exact mpT_len nx _ ps _
theorem mpPut_len (nx : Int) (ps : List PlD) : (mpPut nx ps).length ≤ 248 := by
  unfold mpPut
  split
  · next h =>
    have h1 := mpEnc_len nx ps
    have h2 := mpB_len h
    omega
  · simp
theorem putMapS (nx : Int) (a : Option Addr) (n cap : Nat) (ps : List PlD) (w : World) (hf : PR w a n ps) :
    Calls Try.prog 21 #[.agg #[.int .i64 nx, .slice a n cap]] w fun e w' => ∃ b d, e = .returned (.slice b (mpPut nx ps).length d) ∧ Rd w' b (mpPut nx ps) ∧ Below w.heap.size w w' := by
  unfold mpPut
  cases hok : mpB nx ps with
  | true =>
    simp only [if_true]
    exact (putMapS_yes nx a n cap ps w hf hok).mono fun e w' ⟨g, d, h1, _, h3, h4⟩ => ⟨some ⟨g, 0, none⟩, d, h1, h3.rd, h4⟩
  | false =>
    simp only [Bool.false_eq_true, if_false, List.length_nil]
    exact (putMapS_no nx a n cap ps w hf hok).mono fun e w' ⟨g, h1, h2⟩ => ⟨some ⟨g, 0, none⟩, 0, h1, .inl rfl, h2⟩
theorem putMapI (nx : Int) (a : Option Addr) (n cap : Nat) (ps : List PlD) (w : World) (hf : PR w a n ps) :
    Calls Try.prog 10 #[.agg #[.int .i64 nx, .slice a n cap]] w fun e w' => ∃ b d, e = .returned (.slice b (mpPut nx ps).length d) ∧ RowB w' (.slice b (mpPut nx ps).length d) (mpPut nx ps).length (mpPut nx ps) ∧ (∀ g, (Value.slice b (mpPut nx ps).length d).ownBlock = some g → w.heap.size ≤ g) ∧ Below w.heap.size w w' := by
  unfold mpPut
  cases hok : mpB nx ps with
  | true =>
    simp only [if_true]
    exact (putMapI_yes nx a n cap ps w hf hok).mono fun e w' ⟨g, d, h1, h2, h3, h4⟩ => ⟨some ⟨g, 0, none⟩, d, h1, h3.rowB, fun k hk => by simp [Value.ownBlock] at hk; omega, h4⟩
  | false =>
    simp only [Bool.false_eq_true, if_false, List.length_nil]
    exact (putMapI_no nx a n cap ps w hf hok).mono fun e w' ⟨h1, h2⟩ => ⟨none, 0, h1, RowB.nil _, fun k hk => by simp [Value.ownBlock] at hk, h2⟩
end
end Go.Proofs.Ytjaicciilehlnaa
