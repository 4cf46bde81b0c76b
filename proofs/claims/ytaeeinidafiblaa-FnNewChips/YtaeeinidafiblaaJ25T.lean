/-
  Joined: DrNw, DrNc.
-/
import Derived.Test.YtaeeinidafiblaaJ24T
import Derived.Test.YtaeeinidafiblaaJ11T
namespace Go.Proofs.Ytaeeinidafiblaa
section
open Go.RowKit
set_option maxHeartbeats 2000000 in
theorem drawChipNew_any (a : Option Addr) (n cap : Nat) (zs : List Int) (w : World) (hn : zs.length = n) (hs : n ≤ 1048576) (hr : Rd w a zs) (hb : Byt zs) :
    Calls Try.prog 7 #[.slice a n cap] w fun e w' => ∃ x : Int, e = .returned (.int .i64 x) ∧ (-1 ≤ x ∧ x ≤ 25) ∧ Below w.heap.size w w' := by
  go_enter Try.func7, Try.ntmps7
  go_wp2_with fail
  refine (new_step a n cap zs _ hn hs hr hb).mono ?_
  rintro e w1 ⟨rfl, s1, b1⟩
  obtain ⟨gc, hgc⟩ : ∃ g, w.heap.size = g := ⟨_, rfl⟩
  have HG : Hid (w.heap.size = gc) := hgc
  rw [hgc] at s1 ⊢
  have hs1 := s1.cur.lt
  have HB1 : Hid (Below w.heap.size w w1) := b1
  have hcl : ∀ j, j < 6 → (w1.alloc (.cells #[.int .i64 3, .int .i64 5, .int .i64 24, .int .i64 2, .int .i64 25, .int .i64 (-1)] 3)).cell? ⟨w1.heap.size, j, none⟩ = some (.int .i64 (([3, 5, 24, 2, 25, -1] : List Int).getD j 0)) := fun j hj => ints_cells w1 [3, 5, 24, 2, 25, -1] 3 j hj
  have HCL : Hid _ := hcl
  clear hr hb hn b1 hgc hcl
  go_wp2_with fail
  refine (int_step gc n cap a zs w1.heap.size 6 [3, 5, 24, 2, 25, -1] _ (s1.alloc _) rfl (by omega) (by omega) (by omega) HCL.out).mono ?_
  rintro e w2 ⟨k, rfl, hk, s2, g2⟩
  have hin : -1 ≤ ([3, 5, 24, 2, 25, -1] : List Int).getD k 0 ∧ ([3, 5, 24, 2, 25, -1] : List Int).getD k 0 ≤ 25 := by
    rcases (show k = 0 ∨ k = 1 ∨ k = 2 ∨ k = 3 ∨ k = 4 ∨ k = 5 by omega) with rfl | rfl | rfl | rfl | rfl | rfl <;> simp
  have HB2 : Hid (Below w.heap.size w w2) := (HB1.out.alloc HB1.out.size _).grown g2 (by have := HB1.out.size; simp; omega) (fun m hm => by simp at hm; have := HG.out; omega)
  generalize ([3, 5, 24, 2, 25, -1] : List Int).getD k 0 = x at hin ⊢
  clear s1 s2 g2 HCL
  go_wp2
  go_ret
  exact ⟨x, rfl, hin, HB2.out⟩
/-- A drawn chip that can be read. -/
def DrawnCh (w : World) (e : Ending) (w' : World) : Prop := ∃ va vn vc qs, e = .returned (.agg #[.slice va vn vc]) ∧ CR w' va vn qs ∧ Below w.heap.size w w'
set_option maxRecDepth 100000 in
set_option maxHeartbeats 2000000 in
theorem drawChipOk_any (a : Option Addr) (n cap : Nat) (zs : List Int) (w : World) (hn : zs.length = n) (hs : n ≤ 1048576) (hr : Rd w a zs) (hb : Byt zs) :
    Calls Try.prog 9 #[.slice a n cap] w (DrawnCh w) := by
  have b0 : Below w.heap.size w (w.alloc (.cells #[.slice none 0 0] 27)) := (Below.refl _ w).alloc (Nat.le_refl _) _
  have z0 := Blk.new w 27 #[.slice none 0 0]
  have hsz : (w.alloc (.cells #[.slice none 0 0] 27)).heap.size = w.heap.size + 1 := by simp
  have HSZ : Hid _ := hsz
  have HB0 : Hid _ := b0
  obtain ⟨P, hP⟩ : ∃ P, DrawnCh w = P := ⟨_, rfl⟩
  have HP : Hid _ := hP
  rw [hP]
  clear hsz hP
  go_enter Try.func9, Try.ntmps9
  go_wp2_with fail
  refine (new_step a n cap zs _ hn hs (hr.keep b0) hb).mono ?_
  rintro e w1 ⟨rfl, s1, b1⟩
  have zr := z0.keep b1
  have B1 := HB0.out.trans (b1.mono HB0.out.size)
  rw [HSZ.out] at s1 ⊢
  have hsz1 := b1.size
  rw [HSZ.out] at hsz1
  clear z0 b0 b1 hr hb hn
  go_wp2_with fail
  (with_reducible refine (l10AnyS _ n cap a zs w1 s1).mono ?_)
  rintro e w2 ⟨va, vn, vc, qs, rfl, hA, hvn, s2, sv2⟩
  have zr2 : Blk w2 w.heap.size 27 #[.slice none 0 0] := Blk.svs zr sv2 (by simp)
  have B2 : Below w.heap.size w w2 := Below.svs B1 sv2 (fun m hm => by simp at hm; omega) (Nat.le_refl _)
  have r0 := zr2.cell 0
  have f0 := zr2.frozen 0
  have d0 := (zr2.set 0 (.slice va vn vc)).cell 0
  simp at r0 d0
  have gf := gr_setC w2 w.heap.size 0 (.slice va vn vc)
  have HO : Hid (CR (w2.setCell ⟨w.heap.size, 0, none⟩ (.slice va vn vc)) va vn qs) := (ACR.far (i := 0) hA (show w.heap.size < w1.heap.size by omega) (.slice va vn vc)).cr
  have HBF : Hid _ := B2.setCell (p := ⟨w.heap.size, 0, none⟩) (Nat.le_refl _) (.slice va vn vc)
  clear zr zr2 B1 B2 s1 s2 sv2 gf hA
  go_wp2
  refine bodyPost_ret (v := .agg #[.slice va vn vc]) (by simp [results, Try.f9, go_sem, d0]) rfl ?_
  rw [← HP.out]
  exact ⟨va, vn, vc, qs, rfl, HO.out, HBF.out⟩
theorem newD_next (x : Int) (k : Nat) (h : k < (newD x).length) : nextD (newD x) (k : Int) = 0 := by
  unfold newD at h ⊢
  split at h
  · rename_i hx
    rw [if_pos hx]
    unfold nextD
    rw [if_pos (by omega)]
    rw [List.length_replicate] at h
    simp [h, bkN, nextP]
  · simp at h
theorem newD_worn (x : Int) : wornD (newD x) = 0 := by
  unfold newD
  split
  · unfold wornD
    rw [List.map_replicate]
    generalize x.toNat = n
    induction n with
    | zero => rfl
    | succ n ih => rw [List.replicate_succ', wornL_snoc, ih]; show wrap64 (0 + 0) = 0; kernel_rfl
  · rfl
theorem newD_ok (x : Int) : chipOkB (newD x) = decide (0 < (newD x).length) := by
  refine (chipOkB_eq ?_).symm
  rw [decide_eq_true_eq]
  constructor
  · intro h0
    by_cases h : 3 ≤ x ∧ x ≤ 24
    · exact ok_new h
    · unfold newD at h0
      rw [if_neg h] at h0
      simp at h0
  · intro hc
    have := hc.1
    omega
theorem newD_len (x : Int) : (newD x).length ≤ 24 := by
  unfold newD
  split
  · rw [List.length_replicate]; omega
  · simp
theorem newD_out (x : Int) : nextD (newD x) ((newD x).length : Int) = -1 := nextD_out (by omega)
end

section
open Go.RowKit
set_option maxRecDepth 100000 in
set_option maxHeartbeats 8000000 in
theorem walkNewChips (a0 : Option Addr) (len0 cap0 : Nat) (zs : List Int) (w : World) (hn : zs.length = len0) (hr : Rd w a0 zs) (hb : Byt zs) :
    Calls Try.prog 3 #[.slice a0 len0 cap0] w fun e w' => e = .returned (.bool true) ∧ Below w.heap.size w w' := by
  by_cases hbig : 1048576 < len0
  · have hd : decide ((1048576 : Int) < (len0 : Int)) = true := by simp; omega
    go_enter Try.func3, Try.ntmps3
    go_wp2_with fail
    refine (big_any a0 len0 cap0 w).mono ?_
    rintro e w1 ⟨rfl, hw⟩
    obtain rfl := hw.symm
    rw [hd]
    go_wp2
    go_ret
    exact ⟨rfl, Below.refl _ _⟩
  have hd : decide ((1048576 : Int) < (len0 : Int)) = false := by simp; omega
  have hcN := drawChipNew_any a0 len0 cap0 zs w hn (by omega) hr hb
  have hcC := fun (W : World) (hB : Below w.heap.size w W) => drawChipOk_any a0 len0 cap0 zs W hn (by omega) (hr.keep hB) hb
  have HCC : Hid _ := hcC
  clear hn hr hb hcC
  go_enter Try.func3, Try.ntmps3
  go_wp2_with fail
  refine (big_any a0 len0 cap0 w).mono ?_
  rintro e w1 ⟨rfl, hw⟩
  obtain rfl := hw.symm
  rw [hd]
  clear hd hbig
  go_wp2_with fail
  refine hcN.mono ?_
  rintro e w1 ⟨x, rfl, hx, B1⟩
  clear hcN
  have hcS := fun (W : World) => chipNewS x W
  have hok := newD_ok x
  have hout := newD_out x
  have hnx := newD_next x
  have hwo := newD_worn x
  have htot := newD_tot x
  have hl24 := newD_len x
  go_wp2_with fail
  refine (chipNewI x w1).mono ?_
  rintro e w2 ⟨a, n, c, qs, rfl, hbs, hqn, b2⟩
  have hdl : (newD x).length = n := by rw [← hbs.len]; exact hqn
  have hD := hbs.D
  generalize newD x = ds at hcS hok hout hnx hwo htot hbs hdl hD hl24
  rw [hdl] at hok hout hnx hl24
  have hcr2 : CR w2 a n qs := ⟨hqn, by rw [hD]; exact htot, hbs.rd⟩
  have bA : Below w2.heap.size w2 (w2.alloc (.cells #[.slice a n c] 27)) := (Below.refl _ _).alloc (Nat.le_refl _) _
  have z2 := Blk.new w2 27 #[.slice a n c]
  have B2 := B1.trans (b2.mono B1.size)
  have B3 := B2.trans (bA.mono B2.size)
  have hcr3 := hcr2.keep bA
  obtain ⟨W3, hW3⟩ : ∃ W, w2.alloc (.cells #[.slice a n c] 27) = W := ⟨_, rfl⟩
  obtain ⟨C, hC⟩ : ∃ C, w2.heap.size = C := ⟨_, rfl⟩
  rw [hW3] at z2 B3 hcr3
  rw [hC] at z2
  have hcS2 : ∀ W : World, Calls Try.prog 10 #[.int .i64 x] W fun e w' => ∃ a' c', e = .returned (.agg #[.slice a' n c']) ∧ Below W.heap.size W w' := fun W => (hcS W).mono fun e w' ⟨a', n', c', qs', h1, h2, h3, h4⟩ => ⟨a', c', by rw [h1, show n' = n by rw [← h3, h2.len, hdl]], h4⟩
  clear hbs hcr2 bA b2 B1 B2 hcS hdl htot hqn
  go_wp2_with fail
  try rw [hW3]
  try rw [hC]
  clear hW3 hC
  refine (HCC.out W3 B3).mono ?_
  rintro e w4 ⟨va, vn, vc, ps, rfl, hx4, b4⟩
  have bA : Below w4.heap.size w4 (w4.alloc (.cells #[.slice va vn vc] 27)) := (Below.refl _ _).alloc (Nat.le_refl _) _
  have y4 := Blk.new w4 27 #[.slice va vn vc]
  have b5 := b4.trans (bA.mono b4.size)
  have B5 : Below w.heap.size w _ := B3.trans (b5.mono B3.size)
  have hx5 := hx4.keep bA
  have hcr5 := hcr3.keep b5
  have z5 := z2.keep b5
  obtain ⟨W5, hW5⟩ : ∃ W, w4.alloc (.cells #[.slice va vn vc] 27) = W := ⟨_, rfl⟩
  obtain ⟨X, hX⟩ : ∃ C, w4.heap.size = C := ⟨_, rfl⟩
  rw [hW5] at y4 B5 hx5 hcr5 z5
  rw [hX] at y4
  have HZ : Hid (Blk W5 C 27 #[.slice a n c]) := z5
  have HY : Hid (Blk W5 X 27 #[.slice va vn vc]) := y4
  have HCR : Hid (CR W5 a n qs) := hcr5
  have HXR : Hid (CR W5 va vn ps) := hx5
  have HB5 : Hid (Below w.heap.size w W5) := B5
  clear hx4 b4 bA b5 B3 hcr3 z2 z5 y4 hcr5 hx5 B5 HCC
  generalize hgo : chipOkB (ps.map BkR.D) = ob
  have HGO : Hid _ := hgo
  clear hgo
  have hoo : (ob != ob) = false := by simp
  have hnn : ((n : Int) != (n : Int)) = false := by simp
  have HK : Hid (∀ W : World, Below W5.drew.heap.size W5.drew W → W.cell? ⟨C, 0, none⟩ = some (.slice a n c) ∧ W.cell? ⟨X, 0, none⟩ = some (.slice va vn vc)) := fun W hW => by
    have hh := (Below.refl W5.heap.size W5).drew.trans hW
    have h1 := (HZ.out.keep hh).cell 0
    have h2 := (HY.out.keep hh).cell 0
    simp at h1 h2
    exact ⟨h1, h2⟩
  have hcI : ∀ W : World, Below W5.drew.heap.size W5.drew W → Calls Try.prog 11 #[.agg #[.slice va vn vc]] W fun e w' => e = .returned (.bool ob) ∧ Below W.heap.size W w' := fun W hW => by
    have := chipOkI va vn vc ps W (HXR.out.keep ((Below.refl W5.heap.size W5).drew.trans hW))
    rw [HGO.out] at this
    exact this
  have hcO : ∀ W : World, Below W5.drew.heap.size W5.drew W → Calls Try.prog 12 #[.agg #[.slice va vn vc]] W fun e w' => e = .returned (.bool ob) ∧ Below W.heap.size W w' := fun W hW => by
    have := chipOkS va vn vc ps W (HXR.out.keep ((Below.refl W5.heap.size W5).drew.trans hW))
    rw [HGO.out] at this
    exact this
  obtain ⟨p0, p1⟩ := HK.out W5.drew (Below.refl _ _)
  have p0' : W5.cell? ⟨C, 0, none⟩ = some (.slice a n c) := p0
  have p1' : W5.cell? ⟨X, 0, none⟩ = some (.slice va vn vc) := p1
  go_upto_region 6 with fail
  try rw [hW5]
  try rw [hX]
  clear hW5 hX
  go_cut [29] (fun s wx => s = .bool false ∧ Below W5.drew.heap.size W5.drew wx)
  case first =>
    refine wp_region_noPanic ?_
    refine wp_region_held_drew (S := fun W : World => W.cell? ⟨C, 0, none⟩ = some (.slice a n c) ∧ W.cell? ⟨X, 0, none⟩ = some (.slice va vn vc)) (by kernel_rfl) (by go_keep) (fun hS => ?_)
    refine wpAnyH_take (i := 0) (v := ?gv1) rfl (by kernel_rfl) (by kernel_rfl) (by kernel_rfl) (fun _ _ _ h => h) (Or.inl ⟨by kernel_rfl, ?gy1⟩) (by assumption) ?gr1
    case gy1 => (intro w' hSw; (try dsimp only at hSw); go_simp; (try with_reducible rfl))
    try simp only [Act.put, List.setIfInBounds_toArray, List.set_cons_zero, List.set_cons_succ, List.getElem_toArray, List.getElem_cons_zero]
    refine wpAnyH_take (i := 1) (v := ?gv2) rfl (by kernel_rfl) (by kernel_rfl) (by kernel_rfl) (fun _ _ _ h => h) (Or.inl ⟨by kernel_rfl, ?gy2⟩) (by assumption) ?gr2
    case gy2 => (intro w' hSw; (try dsimp only at hSw); go_simp; (try with_reducible rfl))
    try simp only [Act.put, List.setIfInBounds_toArray, List.set_cons_zero, List.set_cons_succ, List.getElem_toArray, List.getElem_cons_succ, List.getElem_cons_zero]
    refine wpAnyH_take (i := 2) (v := ?gv3) rfl (by kernel_rfl) (by kernel_rfl) (by kernel_rfl) (fun _ _ _ h => h) (Or.inl ⟨by kernel_rfl, ?gy3⟩) (by assumption) ?gr3
    case gy3 => (intro w' hSw; (try dsimp only at hSw); go_simp; (try with_reducible rfl))
    try simp only [Act.put, List.setIfInBounds_toArray, List.set_cons_zero, List.set_cons_succ, List.getElem_toArray, List.getElem_cons_succ, List.getElem_cons_zero]
    refine wpAnyH_take (i := 3) (v := ?gv4) rfl (by kernel_rfl) (by kernel_rfl) (by kernel_rfl) (fun _ _ _ h => h) (Or.inl ⟨by kernel_rfl, ?gy4⟩) (by assumption) ?gr4
    case gy4 => (intro w' hSw; (try dsimp only at hSw); go_simp; (try with_reducible rfl))
    try simp only [Act.put, List.setIfInBounds_toArray, List.set_cons_zero, List.set_cons_succ, List.getElem_toArray, List.getElem_cons_succ, List.getElem_cons_zero]
    refine wpAnyH_ready (rs := [4]) (by kernel_rfl) (by simp) ?_
    refine AllReadyH.cons rfl (fun K hK => ?_) AllReadyH.nil
    go_simp
    (with_reducible refine (hcS2 _).mono ?_)
    rintro e u4 ⟨a4, c4, rfl, b4⟩
    have hfl : ∀ W : World, (Instr.field 27 (.agg #[.slice a4 n c4]) 0).run Try.prog W = .ok (.slice a4 n c4) W := fun _ => by kernel_rfl
    have q4 := HK.out u4 b4
    clear hS
    dsimp only
    refine Shut.out hK _ _ (q4) (fun hS => ?_)
    try simp only [Act.put, List.setIfInBounds_toArray, List.set_cons_zero, List.set_cons_succ, List.getElem_toArray, List.getElem_cons_succ, List.getElem_cons_zero]
    refine wpAnyH_take (i := 5) (v := ?gv5) rfl (by kernel_rfl) (by kernel_rfl) (by kernel_rfl) (fun _ _ _ h => h) (Or.inl ⟨by kernel_rfl, ?gy5⟩) (by assumption) ?gr5
    case gy5 => (intro w' hSw; (try dsimp only at hSw); go_simp; (try with_reducible rfl))
    try simp only [Act.put, List.setIfInBounds_toArray, List.set_cons_zero, List.set_cons_succ, List.getElem_toArray, List.getElem_cons_succ, List.getElem_cons_zero]
    refine wpAnyH_take (i := 6) (v := ?gv6) rfl (by kernel_rfl) (by kernel_rfl) (by kernel_rfl) (fun _ _ _ h => h) (Or.inl ⟨by kernel_rfl, ?gy6⟩) (by assumption) ?gr6
    case gy6 => (intro w' hSw; (try dsimp only at hSw); go_simp; (try with_reducible rfl))
    try simp only [Act.put, List.setIfInBounds_toArray, List.set_cons_zero, List.set_cons_succ, List.getElem_toArray, List.getElem_cons_succ, List.getElem_cons_zero]
    refine wpAnyH_take (i := 7) (v := ?gv7) rfl (by kernel_rfl) (by kernel_rfl) (by kernel_rfl) (fun _ _ _ h => h) (Or.inl ⟨by kernel_rfl, ?gy7⟩) (by assumption) ?gr7
    case gy7 => (intro w' hSw; (try dsimp only at hSw); go_simp; (try with_reducible rfl))
    try simp only [Act.put, List.setIfInBounds_toArray, List.set_cons_zero, List.set_cons_succ, List.getElem_toArray, List.getElem_cons_succ, List.getElem_cons_zero]
    refine wpAnyH_take (i := 8) (v := ?gv8) rfl (by kernel_rfl) (by kernel_rfl) (by kernel_rfl) (fun _ _ _ h => h) (Or.inl ⟨by kernel_rfl, ?gy8⟩) (by assumption) ?gr8
    case gy8 => (intro w' hSw; (try dsimp only at hSw); go_simp; (try with_reducible rfl))
    try simp only [Act.put, List.setIfInBounds_toArray, List.set_cons_zero, List.set_cons_succ, List.getElem_toArray, List.getElem_cons_succ, List.getElem_cons_zero]
    refine wpAnyH_take (i := 9) (v := ?gv9) rfl (by kernel_rfl) (by kernel_rfl) (by kernel_rfl) (fun _ _ _ h => h) (Or.inl ⟨by kernel_rfl, ?gy9⟩) (by assumption) ?gr9
    case gy9 => (intro w' hSw; (try dsimp only at hSw); go_simp; (try with_reducible rfl))
    try simp only [Act.put, List.setIfInBounds_toArray, List.set_cons_zero, List.set_cons_succ, List.getElem_toArray, List.getElem_cons_succ, List.getElem_cons_zero]
    refine wpAnyH_take (i := 11) (v := ?gv10) rfl (by kernel_rfl) (by kernel_rfl) (by kernel_rfl) (fun _ _ _ h => h) (Or.inl ⟨by kernel_rfl, ?gy10⟩) (by assumption) ?gr10
    case gy10 => (intro w' hSw; (try dsimp only at hSw); go_simp; (try with_reducible rfl))
    try simp only [Act.put, List.setIfInBounds_toArray, List.set_cons_zero, List.set_cons_succ, List.getElem_toArray, List.getElem_cons_succ, List.getElem_cons_zero]
    refine wpAnyH_ready (rs := [10]) (by kernel_rfl) (by simp) ?_
    refine AllReadyH.cons rfl (fun K hK => ?_) AllReadyH.nil
    go_simp
    (with_reducible refine (hcI _ b4).mono ?_)
    rintro e u10 ⟨rfl, b10⟩
    have c10 := b4.trans (b10.mono b4.size)
    have q10 := HK.out u10 c10
    clear hS
    dsimp only
    refine Shut.out hK _ _ (q10) (fun hS => ?_)
    try simp only [Act.put, List.setIfInBounds_toArray, List.set_cons_zero, List.set_cons_succ, List.getElem_toArray, List.getElem_cons_succ, List.getElem_cons_zero]
    refine wpAnyH_ready (rs := [12]) (by kernel_rfl) (by simp) ?_
    refine AllReadyH.cons rfl (fun K hK => ?_) AllReadyH.nil
    go_simp
    (with_reducible refine (hcO _ c10).mono ?_)
    rintro e u12 ⟨rfl, b12⟩
    have c12 := c10.trans (b12.mono c10.size)
    have q12 := HK.out u12 c12
    clear hS
    dsimp only
    refine Shut.out hK _ _ (q12) (fun hS => ?_)
    try simp only [Act.put, List.setIfInBounds_toArray, List.set_cons_zero, List.set_cons_succ, List.getElem_toArray, List.getElem_cons_succ, List.getElem_cons_zero]
    refine wpAnyH_take (i := 13) (v := ?gv11) rfl (by kernel_rfl) (by kernel_rfl) (by kernel_rfl) (fun _ _ _ h => h) (Or.inl ⟨by kernel_rfl, ?gy11⟩) (by assumption) ?gr11
    case gy11 => (intro w' hSw; (try dsimp only at hSw); go_simp; (try with_reducible rfl))
    try simp only [Act.put, List.setIfInBounds_toArray, List.set_cons_zero, List.set_cons_succ, List.getElem_toArray, List.getElem_cons_succ, List.getElem_cons_zero]
    refine wpAnyH_take (i := 14) (v := ?gv12) rfl (by kernel_rfl) (by kernel_rfl) (by kernel_rfl) (fun _ _ _ h => h) (Or.inl ⟨by kernel_rfl, ?gy12⟩) (by assumption) ?gr12
    case gy12 => (intro w' hSw; (try dsimp only at hSw); go_simp; (try with_reducible rfl))
    try simp only [Act.put, List.setIfInBounds_toArray, List.set_cons_zero, List.set_cons_succ, List.getElem_toArray, List.getElem_cons_succ, List.getElem_cons_zero]
    refine wpAnyH_done (by kernel_rfl) (NoPanic.normal ?_) _
    go_wp2_with fail
    go_meet
    exact ⟨rfl, c12⟩
  case rest =>
  obtain ⟨rfl, b6⟩ := hcut
  obtain ⟨w6, hwc⟩ : ∃ W, W = wc := ⟨_, rfl⟩
  subst hwc
  have B6 : Hid (Below w.heap.size w w6) := HB5.out.drew.trans (b6.mono HB5.out.size)
  have b6' := (Below.refl W5.heap.size W5).drew.trans b6
  have HZ6 : Hid (Blk w6 C 27 #[.slice a n c]) := HZ.out.keep b6'
  have HC6 : Hid (CR w6 a n qs) := HCR.out.keep b6'
  clear b6 b6' p0 p1 p0' p1' hcI hcO hcS2 HK HZ HY HCR HXR HB5 HGO hoo hnn
  have hq0 := HZ6.out.cell 0
  simp at hq0
  go_wp2
  go_loopw [6] (fun i wr => ∃ k : Nat, k ≤ n ∧ i = .int .i64 k ∧ Hid (Below w6.heap.size w6 wr)) (fun i _ => n - (intOf i).toNat)
  case atStart => exact ⟨0, Nat.zero_le _, rfl, Below.refl _ _⟩
  case round =>
    obtain ⟨k, hk, rfl, hB⟩ := hrel
    clear hq0
    have q0 := (HZ6.out.keep hB.out).cell 0
    simp at q0
    have hcr := HC6.out.keep hB.out
    by_cases hkn : k < n
    · have hki : (k : Int) < (n : Int) := by omega
      have hcall := nextI a n c qs (k : Int) wr hcr
      rw [hD, hnx k (by omega)] at hcall
      go_wp2_with fail
      refine hcall.mono ?_
      rintro e w7 ⟨rfl, b7⟩
      have HB7 : Hid (Below w6.heap.size w6 w7) := hB.out.trans (b7.mono hB.out.size)
      clear hcall b7 q0
      go_wp2
      go_roundw
      all_goals first
        | (case rel => exact ⟨k + 1, by omega, by go_num, HB7⟩)
        | (case rel => (repeat apply Exists.intro); exact ⟨⟨k + 1, by omega, by go_num, HB7⟩, rfl⟩)
        | (case measure => simp [intOf]; omega)
    · have hki : ¬ (k : Int) < (n : Int) := by omega
      have hcK : ∀ W : World, Below wr.drew.heap.size wr.drew W → Calls Try.prog 11 #[.agg #[.slice a n c]] W fun e w' => e = .returned (.bool (decide (0 < n))) ∧ Below W.heap.size W w' := fun W hW => by
        have := chipOkI a n c qs W (hcr.keep ((Below.refl wr.heap.size wr).drew.trans hW))
        rw [hD, hok] at this
        exact this
      have hcW : ∀ W : World, Below wr.drew.heap.size wr.drew W → Calls Try.prog 14 #[.agg #[.slice a n c]] W fun e w' => e = .returned (.int .i64 0) ∧ Below W.heap.size W w' := fun W hW => by
        have := wornI a n c qs W (hcr.keep ((Below.refl wr.heap.size wr).drew.trans hW))
        rw [hD, hwo] at this
        exact this
      have hcX : ∀ W : World, Below wr.drew.heap.size wr.drew W → Calls Try.prog 13 #[.agg #[.slice a n c], .int .i64 (n : Int)] W fun e w' => e = .returned (.int .i64 (-1)) ∧ Below W.heap.size W w' := fun W hW => by
        have := nextI a n c qs (n : Int) W (hcr.keep ((Below.refl wr.heap.size wr).drew.trans hW))
        rw [hD, hout] at this
        exact this
      have HK : Hid (∀ W : World, Below wr.drew.heap.size wr.drew W → W.cell? ⟨C, 0, none⟩ = some (.slice a n c)) := fun W hW => by
        have h1 := ((HZ6.out.keep hB.out).keep ((Below.refl wr.heap.size wr).drew.trans hW)).cell 0
        simp at h1
        exact h1
      have q0d : wr.drew.cell? ⟨C, 0, none⟩ = some (.slice a n c) := q0
      have hdd : (decide (0 < n) == decide (0 < n)) = true := by simp
      have HBW : Hid (Below w6.heap.size w6 wr.drew) := hB.out.drew
      clear hcr hB HZ6 HC6 hnx hD hok hout hwo
      go_upto_region 13 with fail
      refine wp_region_noPanic ?_
      refine wp_region_held_drew (S := fun W : World => W.cell? ⟨C, 0, none⟩ = some (.slice a n c)) (by kernel_rfl) (by go_keep) (fun hS => ?_)
      refine wpAnyH_take (i := 0) (v := ?gv13) rfl (by kernel_rfl) (by kernel_rfl) (by kernel_rfl) (fun _ _ _ h => h) (Or.inl ⟨by kernel_rfl, ?gy13⟩) (by assumption) ?gr13
      case gy13 => (intro w' hSw; (try dsimp only at hSw); go_simp; (try with_reducible rfl))
      try simp only [Act.put, List.setIfInBounds_toArray, List.set_cons_zero, List.set_cons_succ, List.getElem_toArray, List.getElem_cons_zero]
      refine wpAnyH_take (i := 2) (v := ?gv14) rfl (by kernel_rfl) (by kernel_rfl) (by kernel_rfl) (fun _ _ _ h => h) (Or.inl ⟨by kernel_rfl, ?gy14⟩) (by assumption) ?gr14
      case gy14 => (intro w' hSw; (try dsimp only at hSw); go_simp; (try with_reducible rfl))
      try simp only [Act.put, List.setIfInBounds_toArray, List.set_cons_zero, List.set_cons_succ, List.getElem_toArray, List.getElem_cons_succ, List.getElem_cons_zero]
      refine wpAnyH_take (i := 3) (v := ?gv15) rfl (by kernel_rfl) (by kernel_rfl) (by kernel_rfl) (fun _ _ _ h => h) (Or.inl ⟨by kernel_rfl, ?gy15⟩) (by assumption) ?gr15
      case gy15 => (intro w' hSw; (try dsimp only at hSw); go_simp; (try with_reducible rfl))
      try simp only [Act.put, List.setIfInBounds_toArray, List.set_cons_zero, List.set_cons_succ, List.getElem_toArray, List.getElem_cons_succ, List.getElem_cons_zero]
      refine wpAnyH_take (i := 4) (v := ?gv16) rfl (by kernel_rfl) (by kernel_rfl) (by kernel_rfl) (fun _ _ _ h => h) (Or.inl ⟨by kernel_rfl, ?gy16⟩) (by assumption) ?gr16
      case gy16 => (intro w' hSw; (try dsimp only at hSw); go_simp; (try with_reducible rfl))
      try simp only [Act.put, List.setIfInBounds_toArray, List.set_cons_zero, List.set_cons_succ, List.getElem_toArray, List.getElem_cons_succ, List.getElem_cons_zero]
      refine wpAnyH_take (i := 5) (v := ?gv17) rfl (by kernel_rfl) (by kernel_rfl) (by kernel_rfl) (fun _ _ _ h => h) (Or.inl ⟨by kernel_rfl, ?gy17⟩) (by assumption) ?gr17
      case gy17 => (intro w' hSw; (try dsimp only at hSw); go_simp; (try with_reducible rfl))
      try simp only [Act.put, List.setIfInBounds_toArray, List.set_cons_zero, List.set_cons_succ, List.getElem_toArray, List.getElem_cons_succ, List.getElem_cons_zero]
      refine wpAnyH_ready (rs := [1]) (by kernel_rfl) (by simp) ?_
      refine AllReadyH.cons rfl (fun K hK => ?_) AllReadyH.nil
      go_simp
      (with_reducible refine (hcK _ (Below.refl _ _)).mono ?_)
      rintro e u1 ⟨rfl, b1⟩
      have q1 := HK.out u1 b1
      clear hS
      dsimp only
      refine Shut.out hK _ _ (q1) (fun hS => ?_)
      try simp only [Act.put, List.setIfInBounds_toArray, List.set_cons_zero, List.set_cons_succ, List.getElem_toArray, List.getElem_cons_succ, List.getElem_cons_zero]
      refine wpAnyH_take (i := 6) (v := ?gv18) rfl (by kernel_rfl) (by kernel_rfl) (by kernel_rfl) (fun _ _ _ h => h) (Or.inl ⟨by kernel_rfl, ?gy18⟩) (by assumption) ?gr18
      case gy18 => (intro w' hSw; (try dsimp only at hSw); go_simp; (try with_reducible rfl))
      try simp only [Act.put, List.setIfInBounds_toArray, List.set_cons_zero, List.set_cons_succ, List.getElem_toArray, List.getElem_cons_succ, List.getElem_cons_zero]
      refine wpAnyH_take (i := 7) (v := ?gv19) rfl (by kernel_rfl) (by kernel_rfl) (by kernel_rfl) (fun _ _ _ h => h) (Or.inl ⟨by kernel_rfl, ?gy19⟩) (by assumption) ?gr19
      case gy19 => (intro w' hSw; (try dsimp only at hSw); go_simp; (try with_reducible rfl))
      try simp only [Act.put, List.setIfInBounds_toArray, List.set_cons_zero, List.set_cons_succ, List.getElem_toArray, List.getElem_cons_succ, List.getElem_cons_zero]
      refine wpAnyH_take (i := 8) (v := ?gv20) rfl (by kernel_rfl) (by kernel_rfl) (by kernel_rfl) (fun _ _ _ h => h) (Or.inl ⟨by kernel_rfl, ?gy20⟩) (by assumption) ?gr20
      case gy20 => (intro w' hSw; (try dsimp only at hSw); go_simp; (try with_reducible rfl))
      try simp only [Act.put, List.setIfInBounds_toArray, List.set_cons_zero, List.set_cons_succ, List.getElem_toArray, List.getElem_cons_succ, List.getElem_cons_zero]
      refine wpAnyH_ready (rs := [9]) (by kernel_rfl) (by simp) ?_
      refine AllReadyH.cons rfl (fun K hK => ?_) AllReadyH.nil
      go_simp
      (with_reducible refine (hcW _ b1).mono ?_)
      rintro e u9 ⟨rfl, b9⟩
      have c9 := b1.trans (b9.mono b1.size)
      have q9 := HK.out u9 c9
      clear hS
      dsimp only
      refine Shut.out hK _ _ (q9) (fun hS => ?_)
      try simp only [Act.put, List.setIfInBounds_toArray, List.set_cons_zero, List.set_cons_succ, List.getElem_toArray, List.getElem_cons_succ, List.getElem_cons_zero]
      refine wpAnyH_take (i := 10) (v := ?gv21) rfl (by kernel_rfl) (by kernel_rfl) (by kernel_rfl) (fun _ _ _ h => h) (Or.inl ⟨by kernel_rfl, ?gy21⟩) (by assumption) ?gr21
      case gy21 => (intro w' hSw; (try dsimp only at hSw); go_simp; (try with_reducible rfl))
      try simp only [Act.put, List.setIfInBounds_toArray, List.set_cons_zero, List.set_cons_succ, List.getElem_toArray, List.getElem_cons_succ, List.getElem_cons_zero]
      refine wpAnyH_take (i := 11) (v := ?gv22) rfl (by kernel_rfl) (by kernel_rfl) (by kernel_rfl) (fun _ _ _ h => h) (Or.inl ⟨by kernel_rfl, ?gy22⟩) (by assumption) ?gr22
      case gy22 => (intro w' hSw; (try dsimp only at hSw); go_simp; (try with_reducible rfl))
      try simp only [Act.put, List.setIfInBounds_toArray, List.set_cons_zero, List.set_cons_succ, List.getElem_toArray, List.getElem_cons_succ, List.getElem_cons_zero]
      refine wpAnyH_take (i := 12) (v := ?gv23) rfl (by kernel_rfl) (by kernel_rfl) (by kernel_rfl) (fun _ _ _ h => h) (Or.inl ⟨by kernel_rfl, ?gy23⟩) (by assumption) ?gr23
      case gy23 => (intro w' hSw; (try dsimp only at hSw); go_simp; (try with_reducible rfl))
      try simp only [Act.put, List.setIfInBounds_toArray, List.set_cons_zero, List.set_cons_succ, List.getElem_toArray, List.getElem_cons_succ, List.getElem_cons_zero]
      refine wpAnyH_take (i := 13) (v := ?gv24) rfl (by kernel_rfl) (by kernel_rfl) (by kernel_rfl) (fun _ _ _ h => h) (Or.inl ⟨by kernel_rfl, ?gy24⟩) (by assumption) ?gr24
      case gy24 => (intro w' hSw; (try dsimp only at hSw); go_simp; (try with_reducible rfl))
      try simp only [Act.put, List.setIfInBounds_toArray, List.set_cons_zero, List.set_cons_succ, List.getElem_toArray, List.getElem_cons_succ, List.getElem_cons_zero]
      refine wpAnyH_take (i := 14) (v := ?gv25) rfl (by kernel_rfl) (by kernel_rfl) (by kernel_rfl) (fun _ _ _ h => h) (Or.inl ⟨by kernel_rfl, ?gy25⟩) (by assumption) ?gr25
      case gy25 => (intro w' hSw; (try dsimp only at hSw); go_simp; (try with_reducible rfl))
      try simp only [Act.put, List.setIfInBounds_toArray, List.set_cons_zero, List.set_cons_succ, List.getElem_toArray, List.getElem_cons_succ, List.getElem_cons_zero]
      refine wpAnyH_take (i := 15) (v := ?gv26) rfl (by kernel_rfl) (by kernel_rfl) (by kernel_rfl) (fun _ _ _ h => h) (Or.inl ⟨by kernel_rfl, ?gy26⟩) (by assumption) ?gr26
      case gy26 => (intro w' hSw; (try dsimp only at hSw); go_simp; (try with_reducible rfl))
      try simp only [Act.put, List.setIfInBounds_toArray, List.set_cons_zero, List.set_cons_succ, List.getElem_toArray, List.getElem_cons_succ, List.getElem_cons_zero]
      refine wpAnyH_take (i := 16) (v := ?gv27) rfl (by kernel_rfl) (by kernel_rfl) (by kernel_rfl) (fun _ _ _ h => h) (Or.inl ⟨by kernel_rfl, ?gy27⟩) (by assumption) ?gr27
      case gy27 => (intro w' hSw; (try dsimp only at hSw); go_simp; (try with_reducible rfl))
      try simp only [Act.put, List.setIfInBounds_toArray, List.set_cons_zero, List.set_cons_succ, List.getElem_toArray, List.getElem_cons_succ, List.getElem_cons_zero]
      refine wpAnyH_ready (rs := [17]) (by kernel_rfl) (by simp) ?_
      refine AllReadyH.cons rfl (fun K hK => ?_) AllReadyH.nil
      go_simp
      (with_reducible refine (hcX _ c9).mono ?_)
      rintro e u17 ⟨rfl, b17⟩
      have c17 := c9.trans (b17.mono c9.size)
      have q17 := HK.out u17 c17
      clear hS
      dsimp only
      refine Shut.out hK _ _ (q17) (fun hS => ?_)
      try simp only [Act.put, List.setIfInBounds_toArray, List.set_cons_zero, List.set_cons_succ, List.getElem_toArray, List.getElem_cons_succ, List.getElem_cons_zero]
      refine wpAnyH_take (i := 18) (v := ?gv28) rfl (by kernel_rfl) (by kernel_rfl) (by kernel_rfl) (fun _ _ _ h => h) (Or.inl ⟨by kernel_rfl, ?gy28⟩) (by assumption) ?gr28
      case gy28 => (intro w' hSw; (try dsimp only at hSw); go_simp; (try with_reducible rfl))
      try simp only [Act.put, List.setIfInBounds_toArray, List.set_cons_zero, List.set_cons_succ, List.getElem_toArray, List.getElem_cons_succ, List.getElem_cons_zero]
      refine wpAnyH_take (i := 19) (v := ?gv29) rfl (by kernel_rfl) (by kernel_rfl) (by kernel_rfl) (fun _ _ _ h => h) (Or.inl ⟨by kernel_rfl, ?gy29⟩) (by assumption) ?gr29
      case gy29 => (intro w' hSw; (try dsimp only at hSw); go_simp; (try with_reducible rfl))
      try simp only [Act.put, List.setIfInBounds_toArray, List.set_cons_zero, List.set_cons_succ, List.getElem_toArray, List.getElem_cons_succ, List.getElem_cons_zero]
      refine wpAnyH_take (i := 20) (v := ?gv30) rfl (by kernel_rfl) (by kernel_rfl) (by kernel_rfl) (fun _ _ _ h => h) (Or.inl ⟨by kernel_rfl, ?gy30⟩) (by assumption) ?gr30
      case gy30 => (intro w' hSw; (try dsimp only at hSw); go_simp; (try with_reducible rfl))
      try simp only [Act.put, List.setIfInBounds_toArray, List.set_cons_zero, List.set_cons_succ, List.getElem_toArray, List.getElem_cons_succ, List.getElem_cons_zero]
      refine wpAnyH_done (by kernel_rfl) (NoPanic.normal ?_) _
      go_wp2
      go_ret
      have h1 := HBW.out.trans (c17.mono HBW.out.size)
      exact ⟨rfl, B6.out.trans (h1.mono B6.out.size)⟩
end
end Go.Proofs.Ytaeeinidafiblaa
