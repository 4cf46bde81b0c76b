/-
  Joined: ChPs, ChPr, DvSP, LogW.
-/
import Derived.Test.YtoeeblmnogeonaaGreatDoorJ18T
namespace Go.Proofs.YtoeeblmnogeonaaGreatDoor
section
open Go.RowKit
set_option maxRecDepth 100000 in
set_option maxHeartbeats 4000000 in
theorem l10ProgramS (a : Option Addr) (n cap : Nat) (bs : List BkR) (x : Int) (ba : Option Addr) (nb bc : Nat) (w : World) (hnb : nb ≤ 1048576) (ht : CR w a n bs) :
    Calls Tryz.prog 53 #[.agg #[.slice a n cap], .int .i64 x, .slice ba nb bc] w fun e w' => e = .returned (.int .i64 (codeP (chipOkB (bs.map BkR.D)) (bs.map BkR.D) x nb)) ∧ Below w.heap.size w w' := by
  have B0 : Below w.heap.size w (w.alloc (.cells #[.slice a n cap] 26)) := (Below.refl _ w).alloc (Nat.le_refl _) _
  have z0 := Blk.new w 26 #[.slice a n cap]
  by_cases hb : 400 < nb
  · have hbi : (400 : Int) < (nb : Int) := by omega
    have hc : codeP (chipOkB (bs.map BkR.D)) (bs.map BkR.D) x nb = 1 := by unfold codeP; rw [if_pos hb]
    rw [hc]
    have HB : Hid _ := B0
    clear hc z0 ht B0
    go_enter Tryz.func53, Tryz.ntmps53
    go_wp2
    go_ret
    exact ⟨rfl, HB.out⟩
  · have hbi : ¬ (400 : Int) < (nb : Int) := by omega
    have hc : codeP (chipOkB (bs.map BkR.D)) (bs.map BkR.D) x nb = mayD (chipOkB (bs.map BkR.D)) (bs.map BkR.D) x (decide (nextD (bs.map BkR.D) x = 8)) := by unfold codeP; rw [if_neg hb]
    rw [hc]
    have hnx := fun (W : World) (h : CR W a n bs) => nextS a n cap bs x W h
    have hmy := fun (W : World) (h : CR W a n bs) => mayS a n cap bs x (decide (nextD (bs.map BkR.D) x = 8)) W h
    obtain ⟨m, hm⟩ : ∃ m, nextD (bs.map BkR.D) x = m := ⟨_, rfl⟩
    rw [hm] at hnx hmy ⊢
    obtain ⟨u, hu⟩ : ∃ u, decide (m = 8) = u := ⟨_, rfl⟩
    have hmu : (m == 8) = u := by rw [← hu]; cases h : decide (m = 8) <;> simp_all
    rw [hu] at hmy ⊢
    obtain ⟨c, hcc⟩ : ∃ c, mayD (chipOkB (bs.map BkR.D)) (bs.map BkR.D) x u = c := ⟨_, rfl⟩
    rw [hcc] at hmy ⊢
    have HNX : Hid _ := hnx
    have HMY : Hid _ := hmy
    have HT : Hid (CR (w.alloc (.cells #[.slice a n cap] 26)) a n bs) := ht.keep B0
    clear hc hnx hmy hm hu hcc ht
    go_enter Tryz.func53, Tryz.ntmps53
    go_upto_region 3 with fail
    obtain ⟨W0, hW0⟩ : ∃ W, w.alloc (.cells #[.slice a n cap] 26) = W := ⟨_, rfl⟩
    rw [hW0] at B0 z0 HT ⊢
    clear hW0
    obtain ⟨H, hH⟩ : ∃ H, w.heap.size = H := ⟨_, rfl⟩
    rw [hH] at z0
    have HB : Hid (Below w.heap.size w W0) := B0
    try rw [hH]
    have zd : Blk W0.drew H 26 #[.slice a n cap] := Blk.keep z0 (Below.refl _ _).drew
    have x0 := zd.cell 0
    simp at x0
    have hcN := HNX.out W0.drew (HT.out.keep (Below.refl _ _).drew)
    have HZ : Hid (Blk W0.drew H 26 #[.slice a n cap]) := zd
    clear zd z0 B0
    refine wp_region_noPanic ?_
    refine wp_region_last (fun W : World => W.cell? ⟨H, 0, none⟩ = some (.slice a n cap)) 7 (by kernel_rfl) (by kernel_rfl) (by go_keep) 7 (by kernel_rfl) (fun hS => ?_)
    refine wpAnyH_take (i := 0) (v := ?gv1) rfl (by kernel_rfl) (by kernel_rfl) (by kernel_rfl) (fun _ _ _ h => h) (Or.inl ⟨by kernel_rfl, ?gy1⟩) (by assumption) ?gr1
    case gy1 => (intro w' hSw; (try dsimp only at hSw); go_simp; (try with_reducible rfl))
    try simp only [Act.put, List.setIfInBounds_toArray, List.set_cons_zero, List.set_cons_succ, List.getElem_toArray, List.getElem_cons_zero]
    refine wpAnyH_take (i := 1) (v := ?gv2) rfl (by kernel_rfl) (by kernel_rfl) (by kernel_rfl) (fun _ _ _ h => h) (Or.inl ⟨by kernel_rfl, ?gy2⟩) (by assumption) ?gr2
    case gy2 => (intro w' hSw; (try dsimp only at hSw); go_simp; (try with_reducible rfl))
    try simp only [Act.put, List.setIfInBounds_toArray, List.set_cons_zero, List.set_cons_succ, List.getElem_toArray, List.getElem_cons_succ, List.getElem_cons_zero]
    refine wpAnyH_take (i := 2) (v := ?gv3) rfl (by kernel_rfl) (by kernel_rfl) (by kernel_rfl) (fun _ _ _ h => h) (Or.inl ⟨by kernel_rfl, ?gy3⟩) (by assumption) ?gr3
    case gy3 => (intro w' hSw; (try dsimp only at hSw); go_simp; (try with_reducible rfl))
    try simp only [Act.put, List.setIfInBounds_toArray, List.set_cons_zero, List.set_cons_succ, List.getElem_toArray, List.getElem_cons_succ, List.getElem_cons_zero]
    refine wpAnyH_take (i := 3) (v := ?gv4) rfl (by kernel_rfl) (by kernel_rfl) (by kernel_rfl) (fun _ _ _ h => h) (Or.inl ⟨by kernel_rfl, ?gy4⟩) (by assumption) ?gr4
    case gy4 => (intro w' hSw; (try dsimp only at hSw); go_simp; (try with_reducible rfl))
    try simp only [Act.put, List.setIfInBounds_toArray, List.set_cons_zero, List.set_cons_succ, List.getElem_toArray, List.getElem_cons_succ, List.getElem_cons_zero]
    refine wpAnyH_ready (rs := [4]) (by kernel_rfl) (by simp) ?_
    refine AllReadyH.cons rfl (fun K hK => ?_) AllReadyH.nil
    go_simp
    (with_reducible refine hcN.mono ?_)
    rintro e W1 ⟨rfl, b1⟩
    have HX1 : Hid (W1.cell? ⟨H, 0, none⟩ = some (.slice a n cap)) := (by have := (Blk.keep HZ.out b1).cell 0; simp at this; exact this)
    have hcM := HMY.out W1 ((HT.out.keep (Below.refl _ _).drew).keep b1)
    clear hS
    try dsimp only
    refine Shut.out hK _ _ (HX1.out) (fun hS => ?_)
    try simp only [Act.put, List.setIfInBounds_toArray, List.set_cons_zero, List.set_cons_succ, List.getElem_toArray, List.getElem_cons_succ, List.getElem_cons_zero]
    refine wpAnyH_take (i := 5) (v := ?gv5) rfl (by kernel_rfl) (by kernel_rfl) (by kernel_rfl) (fun _ _ _ h => h) (Or.inl ⟨by kernel_rfl, ?gy5⟩) (by assumption) ?gr5
    case gy5 => (intro w' hSw; (try dsimp only at hSw); go_simp; (try with_reducible rfl))
    try simp only [Act.put, List.setIfInBounds_toArray, List.set_cons_zero, List.set_cons_succ, List.getElem_toArray, List.getElem_cons_succ, List.getElem_cons_zero]
    refine wpAnyH_ready (rs := [6]) (by kernel_rfl) (by simp) ?_
    refine AllReadyH.cons rfl (fun K hK => ?_) AllReadyH.nil
    go_simp
    (with_reducible refine hcM.mono ?_)
    rintro e W2 ⟨rfl, b2⟩
    have HX2 : Hid (W2.cell? ⟨H, 0, none⟩ = some (.slice a n cap)) := (by have := ((Blk.keep HZ.out b1).keep b2).cell 0; simp at this; exact this)
    clear hS
    try dsimp only
    refine Shut.out hK _ _ (HX2.out) (fun hS => ?_)
    try simp only [Act.put, List.setIfInBounds_toArray, List.set_cons_zero, List.set_cons_succ, List.getElem_toArray, List.getElem_cons_succ, List.getElem_cons_zero]
    refine wpAnyH_done (by kernel_rfl) ?_ _
    refine wpOp_last rfl (fun K hK => ?_)
    clear hS
    go_simp
    refine Shut.out hK _ _ (NoPanic.normal ?_)
    have bE : Below w.heap.size w W2 := by
      have h1 : Below W0.heap.size W0 W1 := (Below.refl W0.heap.size W0).drew.trans b1
      have h2 := h1.trans (b2.mono h1.size)
      exact HB.out.trans (h2.mono HB.out.size)
    have HBE : Hid _ := bE
    clear bE b1 b2 x0
    go_wp2
    go_ret
    rw [← hH]
    exact ⟨rfl, HBE.out⟩
end

section
open Go.RowKit
/-- Bytes appended to an empty row of one's own: new ones. -/
theorem app_new {w WE W10 : World} {E nb : Nat} {zs : List Int} {v : Value} (bE : Below w.heap.size w WE) (hE : w.heap.size ≤ E) (hap : AppB WE (.slice (some ⟨E, 0, none⟩) 0 0) nb zs v W10) : Below w.heap.size w W10 ∧ RowB W10 v nb zs ∧ ∀ j, v.ownBlock = some j → w.heap.size ≤ j := by
  refine ⟨bE.grown hap.gr bE.size (fun g hg => by simp [Value.ownBlock] at hg; omega), OwnV.rowB hap.own, fun j hj => ?_⟩
  rcases hap.at_ with e | e
  · rw [hj] at e; simp [Value.ownBlock] at e; omega
  · rw [hj] at e; simp at e; have := bE.size; omega
set_option maxRecDepth 100000 in
set_option maxHeartbeats 8000000 in
theorem programS (a : Option Addr) (n cap : Nat) (bs : List BkR) (x : Int) (ba : Option Addr) (nb bc : Nat) (zs : List Int) (w : World) (hz : zs.length = nb) (hnb : nb ≤ 1048576) (ht : CR w a n bs) (hrb : Rd w ba zs) :
    Calls Tryz.prog 54 #[.agg #[.slice a n cap], .int .i64 x, .slice ba nb bc] w (ChCA w (programD (chipOkB (bs.map BkR.D)) (bs.map BkR.D) x zs) (codeP (chipOkB (bs.map BkR.D)) (bs.map BkR.D) x zs.length)) := by
  have hnn := ht.n
  have B0 : Below w.heap.size w ((w.alloc (.cells #[.slice a n cap] 26)).alloc (.cells #[.slice none 0 0] 26)) := ((Below.refl _ w).alloc (Nat.le_refl _) _).alloc (by simp) _
  have z0 := (Blk.new w 26 #[.slice a n cap]).alloc (.cells #[.slice none 0 0] 26)
  have z1 := Blk.new (w.alloc (.cells #[.slice a n cap] 26)) 26 #[.slice none 0 0]
  simp only [World.size_alloc] at z1
  have hws : ((w.alloc (.cells #[.slice a n cap] 26)).alloc (.cells #[.slice none 0 0] 26)).heap.size = w.heap.size + 2 := by simp
  obtain ⟨H, hH⟩ : ∃ H, w.heap.size = H := ⟨_, rfl⟩
  rw [hH] at z0 z1 hws
  have cE := fun (W : World) (h : CR W a n bs) => l10ProgramS a n cap bs x ba nb bc W hnb h
  have cN := fun (W : World) (h : CR W a n bs) => nextS a n cap bs x W h
  generalize hok : chipOkB (bs.map BkR.D) = ok at cE
  obtain ⟨code, hcode⟩ : ∃ code, codeP ok (bs.map BkR.D) x nb = code := ⟨_, rfl⟩
  rw [hcode] at cE
  have CE : Hid _ := cE
  have CN : Hid _ := cN
  have HOK : Hid (chipOkB (bs.map BkR.D) = ok) := hok
  have HCE : Hid (codeP ok (bs.map BkR.D) x nb = code) := hcode
  have HZL : Hid (zs.length = nb) := hz
  have HD : Hid (programD ok (bs.map BkR.D) x zs = if code = 0 then progAt (bs.map BkR.D) x.toNat zs else bs.map BkR.D) := by show _ = _; unfold programD; rw [hz, hcode]
  rw [hz]
  clear cE cN hok hcode hz
  go_enter Tryz.func54, Tryz.ntmps54
  have x00 := z0.cell 0
  simp at x00
  go_upto_region 1 with fail
  obtain ⟨W0, hW0⟩ : ∃ W, (w.alloc (.cells #[.slice a n cap] 26)).alloc (.cells #[.slice none 0 0] 26) = W := ⟨_, rfl⟩
  rw [hW0] at B0 z0 z1 hws x00 ⊢
  clear hW0
  have HW : Hid _ := hws
  have HH : Hid (w.heap.size = H) := hH
  have HT : Hid (CR W0 a n bs) := ht.keep B0
  have HRB : Hid (Rd W0 ba zs) := Rd.keep hrb B0
  have HB0 : Hid (Below H w W0) := by rw [← hH]; exact B0
  have HZ0 : Hid (Blk W0 H 26 #[.slice a n cap]) := z0
  have HZ1 : Hid (Blk W0 (H + 1) 26 #[.slice none 0 0]) := z1
  have hln : Hid (bs.length = n) := ht.len
  clear ht B0 z0 z1 hH hrb
  go_wp2_with fail
  refine (copyChS a n cap bs W0 HT.out).mono ?_
  rintro e w1 ⟨aC, nC, cC, tC, rfl, qC, hlC, b1⟩
  obtain rfl : nC = n := by rw [← hlC, qC.len]; simp [hln.out]
  have b2 : Below w1.heap.size w1 (w1.alloc (.cells #[.slice aC nC cC] 26)) := (Below.refl _ w1).alloc (Nat.le_refl _) _
  have zX := Blk.new w1 26 #[.slice aC nC cC]
  have y0 := ((Blk.keep HZ0.out b1).keep b2).cell 0
  simp at y0
  clear x00
  go_wp2_with fail
  obtain ⟨W2, hW2⟩ : ∃ W, w1.alloc (.cells #[.slice aC nC cC] 26) = W := ⟨_, rfl⟩
  rw [hW2] at b2 zX y0 ⊢
  clear hW2
  obtain ⟨X, hX⟩ : ∃ X, w1.heap.size = X := ⟨_, rfl⟩
  have hX0 : W0.heap.size ≤ X := by rw [← hX]; exact b1.size
  rw [hX] at zX ⊢
  have hFX : Hid (∀ g ∈ fpBs (.slice aC nC cC) tC, g < X) := fun g hg => by rw [← hX]; exact qC.own.lt g hg
  have q2 := qC.keep b2
  have B2 : Below W0.heap.size W0 W2 := b1.trans (b2.mono b1.size)
  clear qC b1 b2 hX
  refine (CE.out W2 (HT.out.keep B2)).mono ?_
  rintro e w3 ⟨rfl, b3⟩
  have q3 := q2.keep b3
  have z3 := zX.keep b3
  have B3 : Below W0.heap.size W0 w3 := B2.trans (b3.mono B2.size)
  clear q2 zX B2 b3 y0
  by_cases hc0 : code = 0
  · subst hc0
    have hmay := HCE.out
    unfold codeP at hmay
    split at hmay
    · omega
    obtain ⟨hokt, k, r, hxk, hrk, hbad, hfull⟩ := code_zero hmay
    subst hxk
    have hkn : k < nC := by have := (List.getElem?_eq_some_iff.1 hrk).1; have := hln.out; omega
    have hki : (k : Int) < (nC : Int) := by omega
    obtain ⟨t, htk, hrt⟩ := same_at (f := BkR.D) (ps := bs) (qs := tC) q3.D hrk
    have hrow := q3.own.1
    rw [hlC] at hrow
    rcases hrow.cases with ⟨_, h0, _⟩ | ⟨g, c, hv, hgl⟩
    · omega
    · simp only [Value.slice.injEq] at hv
      obtain ⟨rfl, _, rfl⟩ := hv
      have hgX : g < X := hFX.out g (fpBs_row rfl)
      have hg0 : W0.heap.size ≤ g := q3.new g (fpBs_row rfl)
      have HDC : Hid (tC.map BkR.D = bs.map BkR.D) := q3.D
      have hD : t.ps.map PgR.D = r.ps.map PgR.D ∧ t.wear = r.wear ∧ t.bad = r.bad := by unfold BkR.D at hrt; simp only [BkD.mk.injEq] at hrt; exact hrt
      have h8 : t.ps.length = 8 := by
        have h1 := HOK.out
        rw [hokt, chipOkB_iff] at h1
        have h2 := (h1.2.2 r.D (List.mem_map_of_mem (List.mem_of_getElem? hrk))).1
        have h3 : r.ps.length = 8 := by simpa [BkR.D] using h2
        have h4 := congrArg List.length hD.1
        simp at h4
        omega
      obtain ⟨m, hm⟩ : ∃ m, nextP (r.ps.map PgR.D) = m := ⟨_, rfl⟩
      have hm8 : m < 8 := by
        have h1 := nextP_le (r.ps.map PgR.D)
        rw [← hD.1] at h1
        simp [h8] at h1
        rw [nextD_in hrk] at hfull
        simp at hfull
        rw [hD.1] at h1
        omega
      have hmi : (m : Int) < 8 := by omega
      have hmn : ¬ (m : Int) < 0 := by omega
      have hNX : Hid (∀ W : World, CR W a nC bs → Calls Tryz.prog 106 #[.agg #[.slice a nC cap], .int .i64 (k : Int)] W fun e w' => e = .returned (.int .i64 (m : Int)) ∧ Below W.heap.size W w') := fun W h => by
        have := CN.out W h
        rw [nextD_in hrk, hm] at this
        exact this
      have hOP : OwnPs w3 t.v t.ps := q3.own.2 t (List.mem_of_getElem? htk)
      rcases hOP.1.cases with ⟨_, h0, _⟩ | ⟨P, pc, hpv, hPl⟩
      · omega
      unfold BkR.v at hpv
      simp only [Value.slice.injEq] at hpv
      obtain ⟨hta, _, hpc⟩ := hpv
      subst hpc
      have hrw : OwnE pgE 92 w3 (.slice (some ⟨P, 0, none⟩) t.ps.length t.cap) t.ps.length t.ps := by have := hOP.1; unfold BkR.v at this; rw [hta] at this; exact this
      have hPX : P < X := hFX.out P (fpBs_bk (List.mem_of_getElem? htk) (fpPs_row (by unfold BkR.v; rw [hta]; rfl)))
      have hP0 : W0.heap.size ≤ P := q3.new P (fpBs_bk (List.mem_of_getElem? htk) (fpPs_row (by unfold BkR.v; rw [hta]; rfl)))
      have hgP : Hid (g ≠ P) := fun e => (NewBs.row q3).1 (List.mem_flatMap.2 ⟨t, List.mem_of_getElem? htk, by rw [e]; exact fpPs_row (by unfold BkR.v; rw [hta]; rfl)⟩)
      have hall : Hid (∀ W : World, Below w3.drew.heap.size w3.drew W → W.cell? ⟨X, 0, none⟩ = some (.slice (some ⟨g, 0, none⟩) nC cC) ∧ W.cell? ⟨g, k * 3, none⟩ = some (.slice (some ⟨P, 0, none⟩) 8 t.cap) ∧ W.cell? ⟨H, 0, none⟩ = some (.slice a nC cap)) := fun W hW => by
        have b3 : Below w3.heap.size w3 W := (Below.refl w3.heap.size w3).drew.trans hW
        refine ⟨by have := (z3.keep b3).cell 0; simp at this; exact this, ?_, by have := (Blk.keep HZ0.out (B3.trans (b3.mono B3.size))).cell 0; simp at this; exact this⟩
        have := (hrow.keep b3).cell k 0 t htk (by decide)
        rw [show (bkE.en t)[0]? = some (.slice t.a t.ps.length t.cap) from rfl, hta, h8] at this
        exact this
      have hpg : Hid (∀ W : World, Below w3.drew.heap.size w3.drew W → ∃ v0 v1, W.cell? ⟨P, m * 2, none⟩ = some v0 ∧ W.cell? ⟨P, m * 2 + 1, none⟩ = some v1 ∧ W.frozen? ⟨P, m * 2, none⟩ = false ∧ W.frozen? ⟨P, m * 2 + 1, none⟩ = false ∧ (∃ v2, (W.setCell ⟨P, m * 2, none⟩ (.bool true)).cell? ⟨P, m * 2 + 1, none⟩ = some v2) ∧ (W.setCell ⟨P, m * 2, none⟩ (.bool true)).frozen? ⟨P, m * 2 + 1, none⟩ = false) := fun W hW => by
        have b3 : Below w3.heap.size w3 W := (Below.refl w3.heap.size w3).drew.trans hW
        have hr := hrw.keep b3
        obtain ⟨p, hp⟩ : ∃ p, t.ps[m]? = some p := ⟨_, List.getElem?_eq_getElem (by omega)⟩
        have hs := hr.set m 0 p ⟨true, p.a, p.cap, p.zs⟩ (.bool true) hp (by decide) rfl
        have c0 := hr.cell m 0 p hp (by decide)
        have c1 := hr.cell m 1 p hp (by decide)
        have c2 := hs.cell m 1 ⟨true, p.a, p.cap, p.zs⟩ (get_set hp) (by decide)
        exact ⟨_, _, c0, c1, hr.frozen _, hr.frozen _, ⟨_, c2⟩, hs.frozen _⟩
      have hTd : CR w3.drew a nC bs := HT.out.keep (B3.drew)
      have bA : Below w3.drew.heap.size w3.drew (w3.drew.alloc (.cells #[] 5)) := (Below.refl _ _).alloc (Nat.le_refl _) _
      have hcN := hNX.out w3.drew hTd
      have hcM : Calls Tryz.prog 106 #[.agg #[.slice a nC cap], .int .i64 (k : Int)] (w3.alloc (.cells #[] 5)).drew fun e w' => e = .returned (.int .i64 (m : Int)) ∧ Below (w3.drew.alloc (.cells #[] 5)).heap.size (w3.drew.alloc (.cells #[] 5)) w' := hNX.out (w3.drew.alloc (.cells #[] 5)) (hTd.keep bA)
      have HRD : Hid (∀ W : World, Below w3.drew.heap.size w3.drew W → Rd W ba zs) := fun W hW => Rd.keep HRB.out (B3.trans (((Below.refl w3.heap.size w3).drew.trans hW).mono B3.size))
      have hcc0 : ((0 : Int) == 0) = true := rfl
      have HBA : Hid _ := bA
      have HPG : Hid (NewBs w3 W0.heap.size (.slice (some ⟨g, 0, none⟩) nC cC) (bs.map BkR.D) tC ∧ tC.length = nC ∧ tC[k]? = some t ∧ t.a = some ⟨P, 0, none⟩ ∧ m < t.ps.length) := ⟨q3, hlC, htk, hta, by omega⟩
      have HFIN : Hid (Blk w3 X 26 #[.slice (some ⟨g, 0, none⟩) nC cC] ∧ Below W0.heap.size W0 w3 ∧ X < w3.heap.size) := ⟨z3, B3, z3.lt⟩
      have HRR : Hid (bs[k]? = some r ∧ t.ps.map PgR.D = r.ps.map PgR.D ∧ t.wear = r.wear ∧ t.bad = r.bad ∧ nextP (r.ps.map PgR.D) = m) := ⟨hrk, hD.1, hD.2.1, hD.2.2, hm⟩
      obtain ⟨s1, s2, s3⟩ := hall.out w3.drew (Below.refl _ _)
      obtain ⟨tcap, htcap⟩ : ∃ tc, t.cap = tc := ⟨_, rfl⟩
      rw [htcap] at s2 hall
      clear hokt hmay hfull hrow hrw hOP q3 z3 hrt hD hm h8 hrk htk hlC hta hTd bA
      go_upto_region 4 with fail
      refine wp_region_noPanic ?_
      refine wp_region_last (fun W : World => W.cell? ⟨X, 0, none⟩ = some (.slice (some ⟨g, 0, none⟩) nC cC) ∧ W.cell? ⟨g, k * 3, none⟩ = some (.slice (some ⟨P, 0, none⟩) 8 tcap) ∧ W.cell? ⟨H, 0, none⟩ = some (.slice a nC cap)) 14 (by kernel_rfl) (by kernel_rfl) (by go_keep) 14 (by kernel_rfl) (fun hS => ?_)
      refine wpAnyH_take (i := 0) (v := ?gv1) rfl (by kernel_rfl) (by kernel_rfl) (by kernel_rfl) (fun _ _ _ h => h) (Or.inl ⟨by kernel_rfl, ?gy1⟩) (by assumption) ?gr1
      case gy1 => (intro w' hSw; (try dsimp only at hSw); go_simp; (try with_reducible rfl))
      try simp only [Act.put, List.setIfInBounds_toArray, List.set_cons_zero, List.set_cons_succ, List.getElem_toArray, List.getElem_cons_zero]
      refine wpAnyH_take (i := 1) (v := ?gv2) rfl (by kernel_rfl) (by kernel_rfl) (by kernel_rfl) (fun _ _ _ h => h) (Or.inl ⟨by kernel_rfl, ?gy2⟩) (by assumption) ?gr2
      case gy2 => (intro w' hSw; (try dsimp only at hSw); go_simp; (try with_reducible rfl))
      try simp only [Act.put, List.setIfInBounds_toArray, List.set_cons_zero, List.set_cons_succ, List.getElem_toArray, List.getElem_cons_succ, List.getElem_cons_zero]
      refine wpAnyH_take (i := 2) (v := ?gv3) rfl (by kernel_rfl) (by kernel_rfl) (by kernel_rfl) (fun _ _ _ h => h) (Or.inl ⟨by kernel_rfl, ?gy3⟩) (by assumption) ?gr3
      case gy3 => (intro w' hSw; (try dsimp only at hSw); go_simp; (try with_reducible rfl))
      try simp only [Act.put, List.setIfInBounds_toArray, List.set_cons_zero, List.set_cons_succ, List.getElem_toArray, List.getElem_cons_succ, List.getElem_cons_zero]
      refine wpAnyH_take (i := 3) (v := ?gv4) rfl (by kernel_rfl) (by kernel_rfl) (by kernel_rfl) (fun _ _ _ h => h) (Or.inl ⟨by kernel_rfl, ?gy4⟩) (by assumption) ?gr4
      case gy4 => (intro w' hSw; (try dsimp only at hSw); go_simp; (try with_reducible rfl))
      try simp only [Act.put, List.setIfInBounds_toArray, List.set_cons_zero, List.set_cons_succ, List.getElem_toArray, List.getElem_cons_succ, List.getElem_cons_zero]
      refine wpAnyH_take (i := 4) (v := ?gv5) rfl (by kernel_rfl) (by kernel_rfl) (by kernel_rfl) (fun _ _ _ h => h) (Or.inl ⟨by kernel_rfl, ?gy5⟩) (by assumption) ?gr5
      case gy5 => (intro w' hSw; (try dsimp only at hSw); go_simp; (try with_reducible rfl))
      try simp only [Act.put, List.setIfInBounds_toArray, List.set_cons_zero, List.set_cons_succ, List.getElem_toArray, List.getElem_cons_succ, List.getElem_cons_zero]
      refine wpAnyH_take (i := 5) (v := ?gv6) rfl (by kernel_rfl) (by kernel_rfl) (by kernel_rfl) (fun _ _ _ h => h) (Or.inl ⟨by kernel_rfl, ?gy6⟩) (by assumption) ?gr6
      case gy6 => (intro w' hSw; (try dsimp only at hSw); go_simp; (try with_reducible rfl))
      try simp only [Act.put, List.setIfInBounds_toArray, List.set_cons_zero, List.set_cons_succ, List.getElem_toArray, List.getElem_cons_succ, List.getElem_cons_zero]
      refine wpAnyH_take (i := 6) (v := ?gv7) rfl (by kernel_rfl) (by kernel_rfl) (by kernel_rfl) (fun _ _ _ h => h) (Or.inl ⟨by kernel_rfl, ?gy7⟩) (by assumption) ?gr7
      case gy7 => (intro w' hSw; (try dsimp only at hSw); go_simp; (try with_reducible rfl))
      try simp only [Act.put, List.setIfInBounds_toArray, List.set_cons_zero, List.set_cons_succ, List.getElem_toArray, List.getElem_cons_succ, List.getElem_cons_zero]
      refine wpAnyH_take (i := 7) (v := ?gv8) rfl (by kernel_rfl) (by kernel_rfl) (by kernel_rfl) (fun _ _ _ h => h) (Or.inl ⟨by kernel_rfl, ?gy8⟩) (by assumption) ?gr8
      case gy8 => (intro w' hSw; (try dsimp only at hSw); go_simp; (try with_reducible rfl))
      try simp only [Act.put, List.setIfInBounds_toArray, List.set_cons_zero, List.set_cons_succ, List.getElem_toArray, List.getElem_cons_succ, List.getElem_cons_zero]
      refine wpAnyH_take (i := 10) (v := ?gv9) rfl (by kernel_rfl) (by kernel_rfl) (by kernel_rfl) (fun _ _ _ h => h) (Or.inl ⟨by kernel_rfl, ?gy9⟩) (by assumption) ?gr9
      case gy9 => (intro w' hSw; (try dsimp only at hSw); go_simp; (try with_reducible rfl))
      try simp only [Act.put, List.setIfInBounds_toArray, List.set_cons_zero, List.set_cons_succ, List.getElem_toArray, List.getElem_cons_succ, List.getElem_cons_zero]
      refine wpAnyH_ready (rs := [8, 9]) (by kernel_rfl) (by simp) ?_
      refine AllReadyH.cons rfl (fun K hK => ?_) (AllReadyH.cons rfl (fun K hK => ?_) AllReadyH.nil)
      go_simp
      (with_reducible refine hcN.mono ?_)
      rintro e W8 ⟨rfl, b8⟩
      clear hS
      try dsimp only
      refine Shut.out hK _ _ (hall.out W8 b8) (fun hS => ?_)
      try simp only [Act.put, List.setIfInBounds_toArray, List.set_cons_zero, List.set_cons_succ, List.getElem_toArray, List.getElem_cons_succ, List.getElem_cons_zero]
      refine wpAnyH_ready (rs := [9]) (by kernel_rfl) (by simp) ?_
      refine AllReadyH.cons rfl (fun K hK => ?_) AllReadyH.nil
      go_simp
      have bE : Below w3.drew.heap.size w3.drew (W8.alloc (.cells #[] 5)) := b8.alloc b8.size _
      have HBE : Hid _ := bE
      have happ := (fun ty => app_bytes (W8.alloc (.cells #[] 5)) (.slice (some ⟨W8.heap.size, 0, none⟩) 0 0) 0 [] ba nb bc zs HZL.out (by omega) ownV_fresh (HRD.out _ bE) ty)
      rw [Nat.zero_add, List.nil_append] at happ
      have HAP : Hid _ := happ
      clear happ bE
      clear hS
      try dsimp only
      refine Shut.out hK _ _ (hall.out _ HBE.out) (fun hS => ?_)
      try simp only [Act.put, List.setIfInBounds_toArray, List.set_cons_zero, List.set_cons_succ, List.getElem_toArray, List.getElem_cons_succ, List.getElem_cons_zero]
      refine wpAnyH_ready (rs := [11]) (by kernel_rfl) (by simp) ?_
      refine AllReadyH.cons rfl (fun K hK => ?_) AllReadyH.nil
      refine step_appAny (W8.alloc (.cells #[] 5)) rfl (.tmp 27) (.tmp 28) 22 rfl (.slice (some ⟨W8.heap.size, 0, none⟩) 0 0) (.slice ba nb bc) _ rfl rfl HAP.out ?_
      intro v1 W10 hap
      obtain ⟨b10, rB, nB⟩ := app_new HBE.out b8.size hap
      obtain ⟨a1, c1, rfl, _⟩ := rB.form
      have HBR : Hid _ := And.intro b10 (And.intro rB (And.intro (AppB.room hap) nB))
      obtain ⟨u0, u1, e0, e1, e2, e3, ⟨u2, e4⟩, e5⟩ := hpg.out W10 b10
      clear b10 rB nB hap
      clear hS
      try dsimp only
      refine Shut.out hK _ _ (hall.out _ HBR.out.1) (fun hS => ?_)
      try simp only [Act.put, List.setIfInBounds_toArray, List.set_cons_zero, List.set_cons_succ, List.getElem_toArray, List.getElem_cons_succ, List.getElem_cons_zero]
      refine wpAnyH_take (i := 12) (v := ?gv10) rfl (by kernel_rfl) (by kernel_rfl) (by kernel_rfl) (fun _ _ _ h => h) (Or.inl ⟨by kernel_rfl, ?gy10⟩) (by assumption) ?gr10
      case gy10 => (intro w' hSw; (try dsimp only at hSw); go_simp; (try with_reducible rfl))
      try simp only [Act.put, List.setIfInBounds_toArray, List.set_cons_zero, List.set_cons_succ, List.getElem_toArray, List.getElem_cons_succ, List.getElem_cons_zero]
      refine wpAnyH_take (i := 13) (v := ?gv11) rfl (by kernel_rfl) (by kernel_rfl) (by kernel_rfl) (fun _ _ _ h => h) (Or.inl ⟨by kernel_rfl, ?gy11⟩) (by assumption) ?gr11
      case gy11 => (intro w' hSw; (try dsimp only at hSw); go_simp; (try with_reducible rfl))
      try simp only [Act.put, List.setIfInBounds_toArray, List.set_cons_zero, List.set_cons_succ, List.getElem_toArray, List.getElem_cons_succ, List.getElem_cons_zero]
      refine wpAnyH_done (by kernel_rfl) ?_ _
      refine wpOp_last rfl (fun K hK => ?_)
      clear hS
      go_simp
      refine Shut.out hK _ _ (NoPanic.normal ?_)
      rotate_left 1
      go_simp
      clear hS
      try dsimp only
      refine Shut.out hK _ _ (hall.out _ HBA.out) (fun hS => ?_)
      try simp only [Act.put, List.setIfInBounds_toArray, List.set_cons_zero, List.set_cons_succ, List.getElem_toArray, List.getElem_cons_succ, List.getElem_cons_zero]
      refine wpAnyH_ready (rs := [8]) (by kernel_rfl) (by simp) ?_
      refine AllReadyH.cons rfl (fun K hK => ?_) AllReadyH.nil
      go_simp
      (with_reducible refine hcM.mono ?_)
      rintro e W8 ⟨rfl, b8⟩
      have bE : Below w3.drew.heap.size w3.drew W8 := HBA.out.trans (b8.mono HBA.out.size)
      have HBE : Hid _ := bE
      have happ := (fun ty => app_bytes W8 (.slice (some ⟨w3.heap.size, 0, none⟩) 0 0) 0 [] ba nb bc zs HZL.out (by omega) (OwnV.keep (ownV_fresh (W := w3.drew)) b8) (HRD.out _ bE) ty)
      rw [Nat.zero_add, List.nil_append] at happ
      have HAP : Hid _ := happ
      clear happ bE
      clear hS
      try dsimp only
      refine Shut.out hK _ _ (hall.out _ HBE.out) (fun hS => ?_)
      try simp only [Act.put, List.setIfInBounds_toArray, List.set_cons_zero, List.set_cons_succ, List.getElem_toArray, List.getElem_cons_succ, List.getElem_cons_zero]
      refine wpAnyH_ready (rs := [11]) (by kernel_rfl) (by simp) ?_
      refine AllReadyH.cons rfl (fun K hK => ?_) AllReadyH.nil
      refine step_appAny W8 rfl (.tmp 27) (.tmp 28) 22 rfl (.slice (some ⟨w3.heap.size, 0, none⟩) 0 0) (.slice ba nb bc) _ rfl rfl HAP.out ?_
      intro v1 W10 hap
      obtain ⟨b10, rB, nB⟩ := app_new HBE.out (Nat.le_refl _) hap
      obtain ⟨a1, c1, rfl, _⟩ := rB.form
      have HBR : Hid _ := And.intro b10 (And.intro rB (And.intro (AppB.room hap) nB))
      obtain ⟨u0, u1, e0, e1, e2, e3, ⟨u2, e4⟩, e5⟩ := hpg.out W10 b10
      clear b10 rB nB hap
      clear hS
      try dsimp only
      refine Shut.out hK _ _ (hall.out _ HBR.out.1) (fun hS => ?_)
      try simp only [Act.put, List.setIfInBounds_toArray, List.set_cons_zero, List.set_cons_succ, List.getElem_toArray, List.getElem_cons_succ, List.getElem_cons_zero]
      refine wpAnyH_take (i := 12) (v := ?gv12) rfl (by kernel_rfl) (by kernel_rfl) (by kernel_rfl) (fun _ _ _ h => h) (Or.inl ⟨by kernel_rfl, ?gy12⟩) (by assumption) ?gr12
      case gy12 => (intro w' hSw; (try dsimp only at hSw); go_simp; (try with_reducible rfl))
      try simp only [Act.put, List.setIfInBounds_toArray, List.set_cons_zero, List.set_cons_succ, List.getElem_toArray, List.getElem_cons_succ, List.getElem_cons_zero]
      refine wpAnyH_take (i := 13) (v := ?gv13) rfl (by kernel_rfl) (by kernel_rfl) (by kernel_rfl) (fun _ _ _ h => h) (Or.inl ⟨by kernel_rfl, ?gy13⟩) (by assumption) ?gr13
      case gy13 => (intro w' hSw; (try dsimp only at hSw); go_simp; (try with_reducible rfl))
      try simp only [Act.put, List.setIfInBounds_toArray, List.set_cons_zero, List.set_cons_succ, List.getElem_toArray, List.getElem_cons_succ, List.getElem_cons_zero]
      refine wpAnyH_done (by kernel_rfl) ?_ _
      refine wpOp_last rfl (fun K hK => ?_)
      clear hS
      go_simp
      refine Shut.out hK _ _ (NoPanic.normal ?_)
      rotate_left 1
      all_goals (
        clear e0 e1 e2 e3 e4 e5 s1 s2 s3 b8 HBE HAP hcN hcM
        obtain ⟨q3, hlC, htk, hta, hml⟩ := HPG.out
        obtain ⟨b10, rB, rO, nB⟩ := HBR.out
        obtain ⟨z3, B3', hX3⟩ := HFIN.out
        have hd3 := (Below.refl w3.heap.size w3).drew
        have b10' : Below w3.heap.size w3 W10 := hd3.trans b10
        have q5 := NewBs.page (q3.keep hd3) hlC htk hta hml b10 HZL.out rB rO nB
        have z5 : Blk ((W10.setCell ⟨P, m * 2, none⟩ (.bool true)).setCell ⟨P, m * 2 + 1, none⟩ (.slice a1 nb c1)) X 26 #[.slice (some ⟨g, 0, none⟩) nC cC] := ((z3.keep b10').other (B' := P) (by omega) (m * 2) (.bool true)).other (B' := P) (by omega) (m * 2 + 1) (.slice a1 nb c1)
        have B5 : Below W0.heap.size W0 ((W10.setCell ⟨P, m * 2, none⟩ (.bool true)).setCell ⟨P, m * 2 + 1, none⟩ (.slice a1 nb c1)) := ((B3'.trans (b10'.mono B3'.size)).setCell (p := ⟨P, m * 2, none⟩) hP0 _).setCell (p := ⟨P, m * 2 + 1, none⟩) hP0 _
        clear q3 b10 b10' rB rO nB z3 B3' hd3 HBR HPG HFIN htk hta hml B3
        obtain ⟨W5, hW5⟩ : ∃ W, (W10.setCell ⟨P, m * 2, none⟩ (.bool true)).setCell ⟨P, m * 2 + 1, none⟩ (.slice a1 nb c1) = W := ⟨_, rfl⟩
        rw [hW5] at q5 z5 B5 ⊢
        clear hW5
        have x0 := z5.cell 0
        have zr := Blk.keep HZ1.out B5
        have r0 := zr.cell 0
        have f0 := zr.frozen 0
        have zf := zr.set 0 (.slice (some ⟨g, 0, none⟩) nC cC)
        have d0 := zf.cell 0
        simp at x0 r0 d0
        have HQ : Hid _ := q5
        have HB6 : Hid (Below W0.heap.size W0 W5) := B5
        have HLL : Hid (tC.length = nC) := hlC
        clear q5 z5 B5 zr zf hlC
        go_wp2
        refine bodyPost_ret (v := .tuple #[.agg #[.slice (some ⟨g, 0, none⟩) nC cC], .int .i64 0]) (by simp [results, Tryz.f54, go_sem, d0]) rfl ?_
        have hw := HW.out
        have hH := HH.out
        have hbs := HB0.out
        have hb3 := HB6.out
        obtain ⟨e1, e2, e3, e4, e5⟩ := HRR.out
        have hfin : programD ok (bs.map BkR.D) (k : Int) zs = (bs.map BkR.D).set k ⟨(t.ps.map PgR.D).set m ⟨true, zs⟩, t.wear, t.bad⟩ := (by
          rw [HD.out, if_pos trivial]
          unfold progAt
          simp only [Int.toNat_natCast, List.getElem?_map, e1, Option.map_some]
          rw [e2, e3, e4, ← e5]
          rfl)
        rw [hfin, HCE.out]
        have bel : Below w.heap.size w W5 := (by rw [hH]; exact hbs.trans (hb3.mono (by omega)))
        exact ⟨some ⟨g, 0, none⟩, nC, cC, _, rfl, NewBs.wider (B := W0.heap.size) (NewBs.set_below (B := W0.heap.size) (j := H + 1) HQ.out (by omega)) (by omega), by rw [List.length_set]; exact HLL.out, bel.setCell (p := ⟨H + 1, 0, none⟩) (by simp only; omega) _⟩)
  · have hcb : (code == 0) = false := by simp [hc0]
    have x0 := z3.cell 0
    have zr := Blk.keep HZ1.out B3
    have r0 := zr.cell 0
    have f0 := zr.frozen 0
    have zf := zr.set 0 (.slice aC nC cC)
    have d0 := zf.cell 0
    simp at x0 r0 d0
    have HQ : Hid _ := q3
    have HB3 : Hid (Below W0.heap.size W0 w3) := B3
    have HL : Hid (tC.length = nC) := hlC
    have HC0 : Hid (¬ code = 0) := hc0
    clear q3 z3 B3 zr zf hlC hc0
    go_wp2
    refine bodyPost_ret (v := .tuple #[.agg #[.slice aC nC cC], .int .i64 code]) (by simp [results, Tryz.f54, go_sem, d0]) rfl ?_
    have hw := HW.out
    have hH := HH.out
    have hbs := HB0.out
    have hb3 := HB3.out
    rw [HD.out, if_neg HC0.out, HCE.out]
    have bel : Below w.heap.size w w3 := by rw [hH]; exact hbs.trans (hb3.mono (by omega))
    exact ⟨aC, nC, cC, tC, rfl, NewBs.wider (B := W0.heap.size) (NewBs.set_below (B := W0.heap.size) (j := H + 1) HQ.out (by omega)) (by omega), HL.out, bel.setCell (p := ⟨H + 1, 0, none⟩) (by simp only; omega) _⟩
end

section
open Go.RowKit
theorem progAt_len (ds : List BkD) (k : Nat) (zs : List Int) : (progAt ds k zs).length = ds.length := by
  unfold progAt
  split <;> simp
set_option maxRecDepth 100000 in
set_option maxHeartbeats 16000000 in
theorem devPrS (a : Option Addr) (n cap : Nat) (bs : List BkR) (ops : Int) (fa : Option Addr) (m fc : Nat) (fs : List FtD) (down : Bool) (x : Int) (gb nb cb : Nat) (zs : List Int) (w : World) (ht : CR w a n bs) (hf : FR w fa m fs) (hz : zs.length = nb) (hnb : nb ≤ cb ∧ nb ≤ 1048576) (hrz : Rd w (some ⟨gb, 0, none⟩) zs) :
    Calls Tryz.prog 13 #[.agg #[.slice a n cap, .int .i64 ops, .slice fa m fc, .bool down], .int .i64 x, .slice (some ⟨gb, 0, none⟩) nb cb] w (DvCA w ⟨outDs (evCode (bs.map BkR.D) ops fs down (codeP true (bs.map BkR.D) x nb)) (faD ops fs) (bs.map BkR.D) (progAt (bs.map BkR.D) x.toNat zs) (badD (bs.map BkR.D) x.toNat) (fun t => progAt (bs.map BkR.D) x.toNat (zs.take t.toNat)), outOps (evCode (bs.map BkR.D) ops fs down (codeP true (bs.map BkR.D) x nb)) ops, fs, outDown (evCode (bs.map BkR.D) ops fs down (codeP true (bs.map BkR.D) x nb)) (faD ops fs) down⟩ (outCode (evCode (bs.map BkR.D) ops fs down (codeP true (bs.map BkR.D) x nb)) (faD ops fs))) := by
  have hnn := ht.n
  have hmm := hf.tot
  have B0 : Below w.heap.size w ((w.alloc (.cells #[.slice a n cap, .int .i64 ops, .slice fa m fc, .bool down] 29)).alloc (.cells #[.slice none 0 0, .int .i64 0, .slice none 0 0, .bool false] 29)) := ((Below.refl _ w).alloc (Nat.le_refl _) _).alloc (by simp) _
  have z0 := (Blk.new w 29 #[.slice a n cap, .int .i64 ops, .slice fa m fc, .bool down]).alloc (.cells #[.slice none 0 0, .int .i64 0, .slice none 0 0, .bool false] 29)
  have z1 := Blk.new (w.alloc (.cells #[.slice a n cap, .int .i64 ops, .slice fa m fc, .bool down] 29)) 29 #[.slice none 0 0, .int .i64 0, .slice none 0 0, .bool false]
  simp only [World.size_alloc] at z1
  have hws : ((w.alloc (.cells #[.slice a n cap, .int .i64 ops, .slice fa m fc, .bool down] 29)).alloc (.cells #[.slice none 0 0, .int .i64 0, .slice none 0 0, .bool false] 29)).heap.size = w.heap.size + 2 := by simp
  obtain ⟨H, hH⟩ : ∃ H, w.heap.size = H := ⟨_, rfl⟩
  have HH : Hid (w.heap.size = H) := hH
  rw [hH] at z0 z1 hws
  obtain ⟨CD, hCD⟩ : ∃ c, evCode (bs.map BkR.D) ops fs down (codeP true (bs.map BkR.D) x nb) = c := ⟨_, rfl⟩
  rw [hCD]
  have HCD : Hid (evCode (bs.map BkR.D) ops fs down (codeP true (bs.map BkR.D) x nb) = CD) := hCD
  generalize hGP : DvCA w ⟨outDs CD (faD ops fs) (bs.map BkR.D) (progAt (bs.map BkR.D) x.toNat zs) (badD (bs.map BkR.D) x.toNat) (fun t => progAt (bs.map BkR.D) x.toNat (zs.take t.toNat)), outOps CD ops, fs, outDown CD (faD ops fs) down⟩ (outCode CD (faD ops fs)) = P
  have HGP : Hid _ := hGP
  clear hGP hCD
  go_enter Tryz.func13, Tryz.ntmps13
  have x0 := z0.cell 0
  have x1 := z0.cell 1
  have x2 := z0.cell 2
  have x3 := z0.cell 3
  simp at x0 x1 x2 x3
  go_upto_region 1 with fail
  obtain ⟨W0, hW0⟩ : ∃ W, (w.alloc (.cells #[.slice a n cap, .int .i64 ops, .slice fa m fc, .bool down] 29)).alloc (.cells #[.slice none 0 0, .int .i64 0, .slice none 0 0, .bool false] 29) = W := ⟨_, rfl⟩
  rw [hW0] at B0 z0 z1 hws x0 x1 x2 x3 ⊢
  try rw [hH]
  clear hW0 hH
  have HW : Hid _ := hws
  have HB0 : Hid (Below w.heap.size w W0) := B0
  have HT : Hid (∀ W : World, Below W0.heap.size W0 W → CR W a n bs ∧ FR W fa m fs) := fun W h => ⟨(ht.keep B0).keep h, (hf.keep B0).keep h⟩
  have HZ0 : Hid (Blk W0 H 29 #[.slice a n cap, .int .i64 ops, .slice fa m fc, .bool down]) := z0
  have HZ1 : Hid (Blk W0 (H + 1) 29 #[.slice none 0 0, .int .i64 0, .slice none 0 0, .bool false]) := z1
  have hln : Hid (bs.length = n) := ht.len
  have HRZ : Hid (∀ W : World, Below W0.heap.size W0 W → Rd W (some ⟨gb, 0, none⟩) zs) := fun W h => (hrz.keep B0).keep h
  clear ht hf B0 z0 z1 hrz
  go_wp2_with fail
  refine (copyDevS a n cap bs ops fa m fc fs down W0 (HT.out _ (Below.refl _ _)).1 (HT.out _ (Below.refl _ _)).2).mono ?_
  rintro e w1 ⟨a1, n1, c1, fa1, m1, fc1, qs, rfl, hd, hl, b1⟩
  dsimp only at hd ⊢
  clear x0 x1 x2 x3
  have hn1 : n1 = n := by rw [← hl, hd.bs.len]; simp [hln.out]
  subst hn1
  have zX := Blk.new w1 29 #[.slice a1 n1 c1, .int .i64 ops, .slice fa1 m1 fc1, .bool down]
  have b2 : Below w1.heap.size w1 (w1.alloc (.cells #[.slice a1 n1 c1, .int .i64 ops, .slice fa1 m1 fc1, .bool down] 29)) := (Below.refl _ _).alloc (Nat.le_refl _) _
  have hd2 := hd.keep b2
  have hlt : Hid (∀ g ∈ fpDv a1 n1 c1 fa1 m1 fc1 qs, g < w1.heap.size) := hd.lt
  have hW1 : W0.heap.size ≤ w1.heap.size := b1.size
  have B2 := b1.trans (b2.mono b1.size)
  obtain ⟨X, hX⟩ : ∃ X, w1.heap.size = X := ⟨_, rfl⟩
  rw [hX] at zX hlt hW1
  go_upto_region 2 with fail
  obtain ⟨W2, hW2⟩ : ∃ W, w1.alloc (.cells #[.slice a1 n1 c1, .int .i64 ops, .slice fa1 m1 fc1, .bool down] 29) = W := ⟨_, rfl⟩
  rw [hW2] at zX hd2 B2 b2 ⊢
  try rw [hX]
  clear hW2 b2 b1 hd hX
  have BD : Below W0.heap.size W0 W2.drew := B2.drew
  have hall : Hid (∀ W : World, Below W2.drew.heap.size W2.drew W → W.cell? ⟨H, 0, none⟩ = some (.slice a n1 cap) ∧ W.cell? ⟨H, 1, none⟩ = some (.int .i64 ops) ∧ W.cell? ⟨H, 2, none⟩ = some (.slice fa m fc) ∧ W.cell? ⟨H, 3, none⟩ = some (.bool down)) := fun W hW => by
    have := Blk.keep HZ0.out (BD.trans (hW.mono BD.size))
    exact ⟨this.cell 0, this.cell 1, this.cell 2, this.cell 3⟩
  have HBD : Hid _ := BD
  have hcE := l10ProgramS a n1 cap bs x (some ⟨gb, 0, none⟩) nb cb W2.drew hnb.2 (HT.out _ BD).1
  have HMY : Hid (∀ W : World, Below W0.heap.size W0 W → ∀ c : Int, Calls Tryz.prog 52 #[.agg #[.slice a n1 cap, .int .i64 ops, .slice fa m fc, .bool down], .int .i64 c] W fun e w' => e = .returned (.int .i64 (evCode (bs.map BkR.D) ops fs down c)) ∧ Below W.heap.size W w') := fun W h c => l11MayS a n1 cap bs ops fa m fc fs down c W (HT.out _ h).1 (HT.out _ h).2
  have hce : evCode (bs.map BkR.D) ops fs down (codeP (chipOkB (bs.map BkR.D)) (bs.map BkR.D) x nb) = CD := by rw [← HCD.out]; exact evCode_ok _ _ _ _ (fun b => codeP b (bs.map BkR.D) x nb)
  obtain ⟨cc, hcc⟩ : ∃ cc, codeP (chipOkB (bs.map BkR.D)) (bs.map BkR.D) x nb = cc := ⟨_, rfl⟩
  rw [hcc] at hcE hce
  have HCE : Hid _ := hce
  obtain ⟨s0, s1, s2, s3⟩ := hall.out W2.drew (Below.refl _ _)
  clear BD hcc hce
  refine wp_region_noPanic ?_
  refine wp_region_last (fun W : World => W.cell? ⟨H, 0, none⟩ = some (.slice a n1 cap) ∧ W.cell? ⟨H, 1, none⟩ = some (.int .i64 ops) ∧ W.cell? ⟨H, 2, none⟩ = some (.slice fa m fc) ∧ W.cell? ⟨H, 3, none⟩ = some (.bool down)) 7 (by kernel_rfl) (by kernel_rfl) (by go_keep) 7 (by kernel_rfl) (fun hS => ?_)
  refine wpAnyH_take (i := 0) (v := ?gv1) rfl (by kernel_rfl) (by kernel_rfl) (by kernel_rfl) (fun _ _ _ h => h) (Or.inl ⟨by kernel_rfl, ?gy1⟩) (by assumption) ?gr1
  case gy1 => (intro w' hSw; (try dsimp only at hSw); go_simp; (try with_reducible rfl))
  try simp only [Act.put, List.setIfInBounds_toArray, List.set_cons_zero, List.set_cons_succ, List.getElem_toArray, List.getElem_cons_zero]
  refine wpAnyH_take (i := 1) (v := ?gv2) rfl (by kernel_rfl) (by kernel_rfl) (by kernel_rfl) (fun _ _ _ h => h) (Or.inl ⟨by kernel_rfl, ?gy2⟩) (by assumption) ?gr2
  case gy2 => (intro w' hSw; (try dsimp only at hSw); go_simp; (try with_reducible rfl))
  try simp only [Act.put, List.setIfInBounds_toArray, List.set_cons_zero, List.set_cons_succ, List.getElem_toArray, List.getElem_cons_succ, List.getElem_cons_zero]
  refine wpAnyH_take (i := 2) (v := ?gv3) rfl (by kernel_rfl) (by kernel_rfl) (by kernel_rfl) (fun _ _ _ h => h) (Or.inl ⟨by kernel_rfl, ?gy3⟩) (by assumption) ?gr3
  case gy3 => (intro w' hSw; (try dsimp only at hSw); go_simp; (try with_reducible rfl))
  try simp only [Act.put, List.setIfInBounds_toArray, List.set_cons_zero, List.set_cons_succ, List.getElem_toArray, List.getElem_cons_succ, List.getElem_cons_zero]
  refine wpAnyH_take (i := 3) (v := ?gv4) rfl (by kernel_rfl) (by kernel_rfl) (by kernel_rfl) (fun _ _ _ h => h) (Or.inl ⟨by kernel_rfl, ?gy4⟩) (by assumption) ?gr4
  case gy4 => (intro w' hSw; (try dsimp only at hSw); go_simp; (try with_reducible rfl))
  try simp only [Act.put, List.setIfInBounds_toArray, List.set_cons_zero, List.set_cons_succ, List.getElem_toArray, List.getElem_cons_succ, List.getElem_cons_zero]
  refine wpAnyH_take (i := 4) (v := ?gv5) rfl (by kernel_rfl) (by kernel_rfl) (by kernel_rfl) (fun _ _ _ h => h) (Or.inl ⟨by kernel_rfl, ?gy5⟩) (by assumption) ?gr5
  case gy5 => (intro w' hSw; (try dsimp only at hSw); go_simp; (try with_reducible rfl))
  try simp only [Act.put, List.setIfInBounds_toArray, List.set_cons_zero, List.set_cons_succ, List.getElem_toArray, List.getElem_cons_succ, List.getElem_cons_zero]
  refine wpAnyH_ready (rs := [5]) (by kernel_rfl) (by simp) ?_
  refine AllReadyH.cons rfl (fun K hK => ?_) AllReadyH.nil
  go_simp
  (with_reducible refine hcE.mono ?_)
  rintro e W3 ⟨rfl, b3⟩
  have HB3 : Hid (Below W2.drew.heap.size W2.drew W3) := b3
  have hcM := HMY.out W3 (HBD.out.trans (b3.mono HBD.out.size)) cc
  rw [HCE.out] at hcM
  clear b3
  clear hS
  try dsimp only
  refine Shut.out hK _ _ (hall.out W3 HB3.out) (fun hS => ?_)
  try simp only [Act.put, List.setIfInBounds_toArray, List.set_cons_zero, List.set_cons_succ, List.getElem_toArray, List.getElem_cons_succ, List.getElem_cons_zero]
  refine wpAnyH_ready (rs := [6]) (by kernel_rfl) (by simp) ?_
  refine AllReadyH.cons rfl (fun K hK => ?_) AllReadyH.nil
  go_simp
  (with_reducible refine hcM.mono ?_)
  rintro e W4 ⟨rfl, b4⟩
  have HB4 : Hid (Below W2.drew.heap.size W2.drew W4) := HB3.out.trans (b4.mono HB3.out.size)
  clear b4
  clear hS
  try dsimp only
  refine Shut.out hK _ _ (hall.out W4 HB4.out) (fun hS => ?_)
  try simp only [Act.put, List.setIfInBounds_toArray, List.set_cons_zero, List.set_cons_succ, List.getElem_toArray, List.getElem_cons_succ, List.getElem_cons_zero]
  refine wpAnyH_done (by kernel_rfl) ?_ _
  refine wpOp_last rfl (fun K hK => ?_)
  clear hS
  go_simp
  refine Shut.out hK _ _ (NoPanic.normal ?_)
  have b4 : Below W2.heap.size W2 W4 := (Below.refl _ _).drew.trans HB4.out
  have hd4 := hd2.keep b4
  have zX4 := zX.keep b4
  have B4 := B2.trans (b4.mono B2.size)
  have zr4 := Blk.keep HZ1.out B4
  have zH4 := Blk.keep HZ0.out B4
  clear s0 s1 s2 s3 hcE hcM HMY HCE HB3 HB4 hall HBD hd2 zX b4 B2
  by_cases hc0 : CD = 0
  · subst hc0
    obtain ⟨hdv, hdn, hop1, hcz⟩ := evCode_zero HCD.out
    obtain ⟨hok, hop0, hfok⟩ := devB_ops hdv
    subst hdn
    have h400 : nb ≤ 400 := by
      unfold codeP at hcz
      split at hcz <;> omega
    have hmy : mayD true (bs.map BkR.D) x (decide (nextD (bs.map BkR.D) x = 8)) = 0 := by
      unfold codeP at hcz
      rw [if_neg (by omega)] at hcz
      exact hcz
    obtain ⟨_, k, r, rfl, hrk, hrb, _⟩ := code_zero (bs := bs) hmy
    have hkn : k < n1 := by have := (List.getElem?_eq_some_iff.1 hrk).1; have := hln.out; omega
    have hki : (k : Int) < (n1 : Int) := by omega
    have hkk : ¬ (k : Int) < 0 := by omega
    obtain ⟨t, htk, htr⟩ := same_at (f := BkR.D) hd4.bs.D hrk
    have HRK : Hid (bs[k]? = some r ∧ chipOkB (bs.map BkR.D) = true ∧ codeP true (bs.map BkR.D) (k : Int) nb = 0) := ⟨hrk, hok, hcz⟩
    have HMY : Hid (∀ M : Nat, M ≤ 400 → codeP true (bs.map BkR.D) (k : Int) M = 0) := fun M hM => by unfold codeP; rw [if_neg (by omega)]; exact hmy
    have HTK : Hid (qs[k]? = some t ∧ t.D = r.D) := ⟨htk, htr⟩
    obtain ⟨g, ha1⟩ : ∃ g, a1 = some ⟨g, 0, none⟩ := by
      rcases (show OwnE bkE 42 W4 (.slice a1 n1 c1) qs.length qs from hd4.bs.own.1).cases with ⟨_, _, h0⟩ | ⟨g, c, h0, _⟩
      · rw [h0] at htk; simp at htk
      · simp only [Value.slice.injEq] at h0; exact ⟨g, h0.1⟩
    subst ha1
    have hgX : g < X := hlt.out g (fpDv_bs (fpBs_row rfl))
    have hwr : IntKind.i64.wrap (ops + 1) = ops + 1 := wrap_small _ (by omega) (by omega)
    have hcF := faultAtS a n1 cap ops fa m fc fs false W4 (HT.out _ B4).2
    unfold FaA at hcF
    have h0 := zH4.cell 0
    have h1 := zH4.cell 1
    have h2 := zH4.cell 2
    have h3 := zH4.cell 3
    simp at h0 h1 h2 h3
    have HKP : Hid (∀ t, faD ops fs = some t → 0 ≤ t.kp ∧ t.kp ≤ 400) := fun t ht => by
      have h1 := hfok t (List.mem_of_find?_eq_some ht)
      unfold ftOk at h1
      simp at h1
      omega
    clear htk htr hrk hcz hdv hfok hok hmy
    go_wp2_with fail
    refine hcF.mono ?_
    rintro e w5 ⟨rfl, b5⟩
    obtain ⟨o, hoo⟩ : ∃ o, faD ops fs = o := ⟨_, rfl⟩
    rw [hoo] at HGP HKP ⊢
    obtain ⟨ft, hft⟩ : ∃ t, (o.getD ftZ).tm = t := ⟨_, rfl⟩
    obtain ⟨fk, hfk⟩ : ∃ t, (o.getD ftZ).kd = t := ⟨_, rfl⟩
    obtain ⟨fp, hfp⟩ : ∃ t, (o.getD ftZ).kp = t := ⟨_, rfl⟩
    obtain ⟨bd, hbd⟩ : ∃ t, o.isSome = t := ⟨_, rfl⟩
    rw [hft, hfk, hfp, hbd]
    have HO : Hid (o = if bd then some ⟨ft, fk, fp⟩ else none) := by
      show _ = _
      subst hft hfk hfp hbd
      cases o <;> rfl
    have zT := Blk.new w5 51 #[.int .i64 ft, .int .i64 fk, .int .i64 fp]
    have b6 : Below w5.heap.size w5 (w5.alloc (.cells #[.int .i64 ft, .int .i64 fk, .int .i64 fp] 51)) := (Below.refl _ _).alloc (Nat.le_refl _) _
    have b46 := b5.trans (b6.mono b5.size)
    have hd6 := hd4.keep b46
    have zX6 := zX4.keep b46
    have zr6 := zr4.keep b46
    have zH6 := zH4.keep b46
    have B6 := B4.trans (b46.mono B4.size)
    have hXT : X < w5.heap.size := (zX4.keep b5).lt
    obtain ⟨T, hT⟩ : ∃ T, w5.heap.size = T := ⟨_, rfl⟩
    rw [hT] at zT hXT
    clear hcF h0 h1 h2 h3 hd4 zX4 zr4 zH4 B4 b5 hoo hft hfk hfp hbd
    go_upto_region 6 with fail
    obtain ⟨W6, hW6⟩ : ∃ W, w5.alloc (.cells #[.int .i64 ft, .int .i64 fk, .int .i64 fp] 51) = W := ⟨_, rfl⟩
    rw [hW6] at zT hd6 zX6 zr6 zH6 B6 ⊢
    try rw [hT]
    clear hW6 b6 b46 hT
    have u1 := zX6.cell 1
    have g1 := zX6.frozen 1
    have h1 := zH6.cell 1
    simp at u1 h1
    have zX7 := zX6.set 1 (.int .i64 (ops + 1))
    have hXn : w.heap.size ≤ X ∧ H + 1 < X := by have := HW.out; have := HH.out; omega
    have zr7 := zr6.other (B' := X) (by omega) 1 (.int .i64 (ops + 1))
    have zH7 := zH6.other (B' := X) (by omega) 1 (.int .i64 (ops + 1))
    have zT7 := zT.other (B' := X) (by omega) 1 (.int .i64 (ops + 1))
    have hd7 := hd6.svs (sv_one W6 X 1 (.int .i64 (ops + 1))) (fun j hj hf => by simp at hf; have := hlt.out j hj; omega)
    have B7 : Below W0.heap.size W0 (W6.setCell ⟨X, 1, none⟩ (.int .i64 (ops + 1))) := B6.setCell (p := ⟨X, 1, none⟩) hW1 _
    clear hd6 zX6 zr6 zH6 zT B6
    go_upto_region 7 with fail
    obtain ⟨W7, hW7⟩ : ∃ W, W6.setCell ⟨X, 1, none⟩ (.int .i64 (ops + 1)) = W := ⟨_, rfl⟩
    rw [hW7] at zX7 zr7 zH7 zT7 hd7 B7 ⊢
    clear hW7 u1 g1 h1
    simp at zX7
    have c1' := zT7.cell 1
    simp at c1'
    by_cases hbad : bd = true ∧ fk = 1
    · obtain ⟨rfl, rfl⟩ := hbad
      have hOw : OwnE bkE 42 W7 (.slice (some ⟨g, 0, none⟩) n1 c1) n1 qs := by have := hd7.bs.own.1; rw [hl] at this; exact this
      have v0 := hOw.cell k 2 t HTK.out.1 (by decide)
      have v1 : W7.cell? ⟨g, k * 3 + 2, none⟩ = some (.bool t.bad) := v0
      have vf := hOw.frozen (k * 3 + 2)
      have u0 := zX7.cell 0
      simp at u0
      have zX8 := zX7.other (B' := g) (by omega) (k * 3 + 2) (.bool true)
      have hHg : H + 1 < g := by have := hd7.bs.new g (fpBs_row rfl); have := HW.out; have := HH.out; omega
      have zr8 := zr7.other (B' := g) (by omega) (k * 3 + 2) (.bool true)
      have hd8 := hd7.bad hl HTK.out.1
      have B8 : Below W0.heap.size W0 (W7.setCell ⟨g, k * 3 + 2, none⟩ (.bool true)) := B7.setCell (p := ⟨g, k * 3 + 2, none⟩) (hd7.bs.new g (fpBs_row rfl)) _
      clear hOw v0 hd7 zX7 zr7 zH7 zT7 B7
      go_upto_region 9 with fail
      obtain ⟨W8, hW8⟩ : ∃ W, W7.setCell ⟨g, k * 3 + 2, none⟩ (.bool true) = W := ⟨_, rfl⟩
      rw [hW8] at zX8 zr8 hd8 B8 ⊢
      clear hW8 v1 vf u0 c1'
      have r0 := zr8.cell 0
      have r1 := zr8.cell 1
      have r2 := zr8.cell 2
      have r3 := zr8.cell 3
      have f0 := zr8.frozen 0
      have f1 := zr8.frozen 1
      have f2 := zr8.frozen 2
      have f3 := zr8.frozen 3
      have zf := (((zr8.set 0 (.slice (some ⟨g, 0, none⟩) n1 c1)).set 1 (.int .i64 (ops + 1))).set 2 (.slice fa1 m1 fc1)).set 3 (.bool false)
      have d0 := zf.cell 0
      have d1 := zf.cell 1
      have d2 := zf.cell 2
      have d3 := zf.cell 3
      have y0 := zX8.cell 0
      have y1 := zX8.cell 1
      have y2 := zX8.cell 2
      have y3 := zX8.cell 3
      simp at r0 r1 r2 r3 d0 d1 d2 d3 y0 y1 y2 y3
      have HN : Hid _ := And.intro hd8 (And.intro (show (qs.set k ⟨t.a, t.cap, t.ps, t.wear, true⟩).length = n1 by rw [List.length_set]; exact hl) B8)
      clear zf hd8 zX8 zr8 B8
      go_wp2
      refine bodyPost_ret (v := .tuple #[.agg #[.slice (some ⟨g, 0, none⟩) n1 c1, .int .i64 (ops + 1), .slice fa1 m1 fc1, .bool false], .int .i64 2]) (by simp [results, Tryz.f13, go_sem, d0, d1, d2, d3]) rfl ?_
      obtain ⟨hnd, hl, hbel⟩ := HN.out
      rw [← HGP.out]
      have hos := HO.out
      simp only [if_true] at hos
      have hbe : badD (bs.map BkR.D) (k : Int).toNat = (bs.map BkR.D).set k ⟨t.ps.map PgR.D, t.wear, true⟩ := by
        have h5 := HTK.out.2
        unfold BkR.D at h5
        simp only [BkD.mk.injEq] at h5
        unfold badD
        rw [Int.toNat_natCast, List.getElem?_map, HRK.out.1]
        simp only [Option.map_some, BkR.D]
        rw [h5.1, h5.2.1]
      rw [hos, show outDs 0 (some ⟨ft, 1, fp⟩) (bs.map BkR.D) (progAt (bs.map BkR.D) (k : Int).toNat zs) (badD (bs.map BkR.D) (k : Int).toNat) (fun t => progAt (bs.map BkR.D) (k : Int).toNat (zs.take t.toNat)) = badD (bs.map BkR.D) (k : Int).toNat from rfl, hbe]
      have hH := HH.out
      have hw := HW.out
      have h1 : H + 1 < W0.heap.size := by omega
      have bel : Below w.heap.size w W8 := HB0.out.trans (hbel.mono HB0.out.size)
      have s : ∀ (W : World) (i : Nat) (v : Value), Below w.heap.size w W → Below w.heap.size w (W.setCell ⟨H + 1, i, none⟩ v) := fun W i v hb => hb.setCell (p := ⟨H + 1, i, none⟩) (by simp only; omega) v
      exact ⟨_, _, _, _, _, _, _, rfl, ((((hnd.set_below h1).set_below h1).set_below h1).set_below h1).wider HB0.out.size, hl, s _ _ _ (s _ _ _ (s _ _ _ (s _ _ _ bel)))⟩
    · cases bd with
      | false =>
        have hos := HO.out
        simp only [Bool.false_eq_true, if_false] at hos
        have HOS : Hid (o = none) := hos
        clear hos HO
        have hzt : zs.length = nb := hz
        have HRT : Hid (Rd W7.drew (some ⟨gb, 0, none⟩) zs) := HRZ.out _ B7.drew
        have hcR := programS a n1 cap bs (k : Int) (some ⟨gb, 0, none⟩) nb cb (zs) W7.drew hzt (by omega) (HT.out _ B7.drew).1 HRT.out
        rw [HRK.out.2.1, hzt, HMY.out nb (by omega), show programD true (bs.map BkR.D) (k : Int) (zs) = progAt (bs.map BkR.D) k (zs) from (by unfold programD; rw [hzt, HMY.out nb (by omega), if_pos rfl, Int.toNat_natCast])] at hcR
        have hTW : T < W7.heap.size := zT7.lt
        have s0 : W7.drew.cell? ⟨H, 0, none⟩ = some (.slice a n1 cap) := zH7.cell 0
        have HZH : Hid (Blk W7 H 29 #[.slice a n1 cap, .int .i64 ops, .slice fa m fc, .bool false]) := zH7
        have c2' := zT7.cell 2
        simp at c2'
        clear hzt zH7
        go_upto_region 13 with fail
        clear c1' c2'
        go_region_with ((go_at_call 54; (with_reducible refine hcR.mono ?_); rintro e w8 ⟨aE, nE, cE, qE, rfl, hqE, hlE, b8⟩; have hnE : nE = n1 := (by rw [← hlE, hqE.len, progAt_len]; simp [hln.out]); subst hnE; have b8' : Below W7.heap.size W7 w8 := (Below.refl _ _).drew.trans b8; have HQE : Hid (NewBs w8 W7.heap.size (.slice aE nE cE) (progAt (bs.map BkR.D) k (zs)) qE ∧ qE.length = nE ∧ Below W7.heap.size W7 w8) := ⟨hqE, hlE, b8'⟩; have zX8 := zX7.keep b8'; have u0 := zX8.cell 0; have g0 := zX8.frozen 0; simp at u0; clear hqE hlE b8 b8'))
        all_goals (
          obtain ⟨hqE, hlE, b8⟩ := HQE.out
          have zr8 := zr7.keep b8
          have hd8 := hd7.chip b8 hqE B7.size
          have B8 := B7.trans (b8.mono B7.size)
          have zX9 := zX8.set 0 (.slice aE nE cE)
          have zr9 := zr8.other (B' := X) (by omega) 0 (.slice aE nE cE)
          have hd9 := hd8.svs (sv_one w8 X 0 (.slice aE nE cE)) (fun j hj hf => by
            simp at hf
            subst hf
            rcases List.mem_append.1 hj with h5 | h5
            · have := hqE.new j h5; omega
            · have := hlt.out j (List.mem_append_right _ h5); omega)
          have B9 : Below W0.heap.size W0 (w8.setCell ⟨X, 0, none⟩ (.slice aE nE cE)) := B8.setCell (p := ⟨X, 0, none⟩) hW1 _
          have HXF : Hid (∀ j ∈ fpDv aE nE cE fa1 m1 fc1 qE, j ≠ X) := fun j hj e => by
            subst e
            rcases List.mem_append.1 hj with h5 | h5
            · have := hqE.new j h5; omega
            · have := hlt.out j (List.mem_append_right _ h5); omega
          obtain ⟨W9, hW9⟩ : ∃ W, w8.setCell ⟨X, 0, none⟩ (.slice aE nE cE) = W := ⟨_, rfl⟩
          rw [hW9] at zX9 zr9 hd9 B9 ⊢
          clear hcR zX7 zr7 zT7 hd7 B7 zX8 zr8 hd8 B8 s0 u0 g0 hW9 HZH HQE hqE b8
          simp at zX9
          have y3 := zX9.cell 3
          have g3 := zX9.frozen 3
          simp at y3
          have zX10 := zX9.set 3 (.bool false)
          have zr10 := zr9.other (B' := X) (by omega) 3 (.bool false)
          have hd10 := hd9.svs (sv_one W9 X 3 (.bool false)) (fun j hj hf => by simp at hf; exact HXF.out j hj hf)
          have B10 : Below W0.heap.size W0 (W9.setCell ⟨X, 3, none⟩ (.bool false)) := B9.setCell (p := ⟨X, 3, none⟩) hW1 _
          go_upto_region 15 with fail
          obtain ⟨W10, hW10⟩ : ∃ W, W9.setCell ⟨X, 3, none⟩ (.bool false) = W := ⟨_, rfl⟩
          rw [hW10] at zX10 zr10 hd10 B10 ⊢
          clear hW10 y3 g3 zX9 zr9 hd9 B9
          simp at zX10
          have r0 := zr10.cell 0
          have r1 := zr10.cell 1
          have r2 := zr10.cell 2
          have r3 := zr10.cell 3
          have f0 := zr10.frozen 0
          have f1 := zr10.frozen 1
          have f2 := zr10.frozen 2
          have f3 := zr10.frozen 3
          have zf := (((zr10.set 0 (.slice aE nE cE)).set 1 (.int .i64 (ops + 1))).set 2 (.slice fa1 m1 fc1)).set 3 (.bool false)
          have d0 := zf.cell 0
          have d1 := zf.cell 1
          have d2 := zf.cell 2
          have d3 := zf.cell 3
          have y0 := zX10.cell 0
          have y1 := zX10.cell 1
          have y2 := zX10.cell 2
          have y3 := zX10.cell 3
          simp at r0 r1 r2 r3 d0 d1 d2 d3 y0 y1 y2 y3
          have HN : Hid _ := And.intro hd10 (And.intro hlE B10)
          clear zf hd10 zX10 zr10 B10 hlE
          go_wp2
          refine bodyPost_ret (v := .tuple #[.agg #[.slice aE nE cE, .int .i64 (ops + 1), .slice fa1 m1 fc1, .bool false], .int .i64 0]) (by simp [results, Tryz.f13, go_sem, d0, d1, d2, d3]) rfl ?_
          obtain ⟨hnd, hl, hbel⟩ := HN.out
          rw [← HGP.out]
          rw [HOS.out, show outDs 0 none (bs.map BkR.D) (progAt (bs.map BkR.D) (k : Int).toNat zs) (badD (bs.map BkR.D) (k : Int).toNat) (fun t => progAt (bs.map BkR.D) (k : Int).toNat (zs.take t.toNat)) = progAt (bs.map BkR.D) k zs from rfl]
          have hH := HH.out
          have hw := HW.out
          have h1 : H + 1 < W0.heap.size := by omega
          have bel : Below w.heap.size w W10 := HB0.out.trans (hbel.mono HB0.out.size)
          have s : ∀ (W : World) (i : Nat) (v : Value), Below w.heap.size w W → Below w.heap.size w (W.setCell ⟨H + 1, i, none⟩ v) := fun W i v hb => hb.setCell (p := ⟨H + 1, i, none⟩) (by simp only; omega) v
          exact ⟨_, _, _, _, _, _, _, rfl, ((((hnd.set_below h1).set_below h1).set_below h1).set_below h1).wider HB0.out.size, hl, s _ _ _ (s _ _ _ (s _ _ _ (s _ _ _ bel)))⟩)
      | true =>
        have hfk : ¬ fk = 1 := fun h => hbad ⟨rfl, h⟩
        have hfkb : (fk == 1) = false := by simpa using hfk
        have hos := HO.out
        simp only [if_true] at hos
        have hkp := HKP.out _ hos
        dsimp only at hkp
        obtain ⟨q, rfl⟩ : ∃ q : Nat, fp = (q : Int) := ⟨fp.toNat, by omega⟩
        have HOS : Hid (o = some ⟨ft, fk, (q : Int)⟩ ∧ ¬ fk = 1) := ⟨hos, hfk⟩
        clear hos HO hfk
        by_cases hqn : q < nb
        · have hqi : (q : Int) < (nb : Int) := by omega
          have hqj : (q : Int) ≤ (nb : Int) := by omega
          have hzt : (zs.take q).length = q := by rw [List.length_take, hz]; omega
          have HRT : Hid (Rd W7.drew (some ⟨gb, 0, none⟩) (zs.take q)) := Rd.takeB (HRZ.out _ B7.drew) q
          have hcR := programS a n1 cap bs (k : Int) (some ⟨gb, 0, none⟩) q cb (zs.take q) W7.drew hzt (by omega) (HT.out _ B7.drew).1 HRT.out
          rw [HRK.out.2.1, hzt, HMY.out q (by omega), show programD true (bs.map BkR.D) (k : Int) (zs.take q) = progAt (bs.map BkR.D) k (zs.take q) from (by unfold programD; rw [hzt, HMY.out q (by omega), if_pos rfl, Int.toNat_natCast])] at hcR
          have hTW : T < W7.heap.size := zT7.lt
          have s0 : W7.drew.cell? ⟨H, 0, none⟩ = some (.slice a n1 cap) := zH7.cell 0
          have HZH : Hid (Blk W7 H 29 #[.slice a n1 cap, .int .i64 ops, .slice fa m fc, .bool false]) := zH7
          have c2' := zT7.cell 2
          simp at c2'
          clear hzt zH7
          go_upto_region 13 with fail
          clear c1' c2'
          go_region_with ((go_at_call 54; (with_reducible refine hcR.mono ?_); rintro e w8 ⟨aE, nE, cE, qE, rfl, hqE, hlE, b8⟩; have hnE : nE = n1 := (by rw [← hlE, hqE.len, progAt_len]; simp [hln.out]); subst hnE; have b8' : Below W7.heap.size W7 w8 := (Below.refl _ _).drew.trans b8; have HQE : Hid (NewBs w8 W7.heap.size (.slice aE nE cE) (progAt (bs.map BkR.D) k (zs.take q)) qE ∧ qE.length = nE ∧ Below W7.heap.size W7 w8) := ⟨hqE, hlE, b8'⟩; have zX8 := zX7.keep b8'; have u0 := zX8.cell 0; have g0 := zX8.frozen 0; simp at u0; clear hqE hlE b8 b8'))
          all_goals (
            obtain ⟨hqE, hlE, b8⟩ := HQE.out
            have zr8 := zr7.keep b8
            have hd8 := hd7.chip b8 hqE B7.size
            have B8 := B7.trans (b8.mono B7.size)
            have zX9 := zX8.set 0 (.slice aE nE cE)
            have zr9 := zr8.other (B' := X) (by omega) 0 (.slice aE nE cE)
            have hd9 := hd8.svs (sv_one w8 X 0 (.slice aE nE cE)) (fun j hj hf => by
              simp at hf
              subst hf
              rcases List.mem_append.1 hj with h5 | h5
              · have := hqE.new j h5; omega
              · have := hlt.out j (List.mem_append_right _ h5); omega)
            have B9 : Below W0.heap.size W0 (w8.setCell ⟨X, 0, none⟩ (.slice aE nE cE)) := B8.setCell (p := ⟨X, 0, none⟩) hW1 _
            have HXF : Hid (∀ j ∈ fpDv aE nE cE fa1 m1 fc1 qE, j ≠ X) := fun j hj e => by
              subst e
              rcases List.mem_append.1 hj with h5 | h5
              · have := hqE.new j h5; omega
              · have := hlt.out j (List.mem_append_right _ h5); omega
            obtain ⟨W9, hW9⟩ : ∃ W, w8.setCell ⟨X, 0, none⟩ (.slice aE nE cE) = W := ⟨_, rfl⟩
            rw [hW9] at zX9 zr9 hd9 B9 ⊢
            clear hcR zX7 zr7 zT7 hd7 B7 zX8 zr8 hd8 B8 s0 u0 g0 hW9 HZH HQE hqE b8
            simp at zX9
            have y3 := zX9.cell 3
            have g3 := zX9.frozen 3
            simp at y3
            have zX10 := zX9.set 3 (.bool true)
            have zr10 := zr9.other (B' := X) (by omega) 3 (.bool true)
            have hd10 := hd9.svs (sv_one W9 X 3 (.bool true)) (fun j hj hf => by simp at hf; exact HXF.out j hj hf)
            have B10 : Below W0.heap.size W0 (W9.setCell ⟨X, 3, none⟩ (.bool true)) := B9.setCell (p := ⟨X, 3, none⟩) hW1 _
            go_upto_region 15 with fail
            obtain ⟨W10, hW10⟩ : ∃ W, W9.setCell ⟨X, 3, none⟩ (.bool true) = W := ⟨_, rfl⟩
            rw [hW10] at zX10 zr10 hd10 B10 ⊢
            clear hW10 y3 g3 zX9 zr9 hd9 B9
            simp at zX10
            have r0 := zr10.cell 0
            have r1 := zr10.cell 1
            have r2 := zr10.cell 2
            have r3 := zr10.cell 3
            have f0 := zr10.frozen 0
            have f1 := zr10.frozen 1
            have f2 := zr10.frozen 2
            have f3 := zr10.frozen 3
            have zf := (((zr10.set 0 (.slice aE nE cE)).set 1 (.int .i64 (ops + 1))).set 2 (.slice fa1 m1 fc1)).set 3 (.bool true)
            have d0 := zf.cell 0
            have d1 := zf.cell 1
            have d2 := zf.cell 2
            have d3 := zf.cell 3
            have y0 := zX10.cell 0
            have y1 := zX10.cell 1
            have y2 := zX10.cell 2
            have y3 := zX10.cell 3
            simp at r0 r1 r2 r3 d0 d1 d2 d3 y0 y1 y2 y3
            have HN : Hid _ := And.intro hd10 (And.intro hlE B10)
            clear zf hd10 zX10 zr10 B10 hlE
            go_wp2
            refine bodyPost_ret (v := .tuple #[.agg #[.slice aE nE cE, .int .i64 (ops + 1), .slice fa1 m1 fc1, .bool true], .int .i64 10]) (by simp [results, Tryz.f13, go_sem, d0, d1, d2, d3]) rfl ?_
            obtain ⟨hnd, hl, hbel⟩ := HN.out
            rw [← HGP.out]
            obtain ⟨e1, e2⟩ := HOS.out
            have hto : outDs 0 (some ⟨ft, fk, (q : Int)⟩) (bs.map BkR.D) (progAt (bs.map BkR.D) (k : Int).toNat zs) (badD (bs.map BkR.D) (k : Int).toNat) (fun t => progAt (bs.map BkR.D) (k : Int).toNat (zs.take t.toNat)) = progAt (bs.map BkR.D) k (zs.take q) := by
              unfold outDs
              rw [if_pos rfl]
              dsimp only
              rw [if_neg e2]
              simp only [Int.toNat_natCast]
              try rfl
            rw [e1, hto, show outDown 0 (some ⟨ft, fk, (q : Int)⟩) false = true from (by unfold outDown; rw [if_pos rfl]; dsimp only; rw [if_neg e2]), show outCode 0 (some ⟨ft, fk, (q : Int)⟩) = 10 from (by unfold outCode; rw [if_pos rfl]; dsimp only; rw [if_neg e2])]
            have hH := HH.out
            have hw := HW.out
            have h1 : H + 1 < W0.heap.size := by omega
            have bel : Below w.heap.size w W10 := HB0.out.trans (hbel.mono HB0.out.size)
            have s : ∀ (W : World) (i : Nat) (v : Value), Below w.heap.size w W → Below w.heap.size w (W.setCell ⟨H + 1, i, none⟩ v) := fun W i v hb => hb.setCell (p := ⟨H + 1, i, none⟩) (by simp only; omega) v
            exact ⟨_, _, _, _, _, _, _, rfl, ((((hnd.set_below h1).set_below h1).set_below h1).set_below h1).wider HB0.out.size, hl, s _ _ _ (s _ _ _ (s _ _ _ (s _ _ _ bel)))⟩)
        · have hqi : ¬ (q : Int) < (nb : Int) := by omega
          have hqq : nb ≤ q := by omega
          have HQQ : Hid (zs.take q = zs) := by show _ = _; rw [List.take_of_length_le (by omega)]
          have hzt : zs.length = nb := hz
          have HRT : Hid (Rd W7.drew (some ⟨gb, 0, none⟩) (zs)) := HRZ.out _ B7.drew
          have hcR := programS a n1 cap bs (k : Int) (some ⟨gb, 0, none⟩) nb cb (zs) W7.drew hzt (by omega) (HT.out _ B7.drew).1 HRT.out
          rw [HRK.out.2.1, hzt, HMY.out nb (by omega), show programD true (bs.map BkR.D) (k : Int) (zs) = progAt (bs.map BkR.D) k (zs) from (by unfold programD; rw [hzt, HMY.out nb (by omega), if_pos rfl, Int.toNat_natCast])] at hcR
          have hTW : T < W7.heap.size := zT7.lt
          have s0 : W7.drew.cell? ⟨H, 0, none⟩ = some (.slice a n1 cap) := zH7.cell 0
          have HZH : Hid (Blk W7 H 29 #[.slice a n1 cap, .int .i64 ops, .slice fa m fc, .bool false]) := zH7
          have c2' := zT7.cell 2
          simp at c2'
          clear hzt zH7
          go_upto_region 13 with fail
          clear c1' c2'
          go_region_with ((go_at_call 54; (with_reducible refine hcR.mono ?_); rintro e w8 ⟨aE, nE, cE, qE, rfl, hqE, hlE, b8⟩; have hnE : nE = n1 := (by rw [← hlE, hqE.len, progAt_len]; simp [hln.out]); subst hnE; have b8' : Below W7.heap.size W7 w8 := (Below.refl _ _).drew.trans b8; have HQE : Hid (NewBs w8 W7.heap.size (.slice aE nE cE) (progAt (bs.map BkR.D) k (zs)) qE ∧ qE.length = nE ∧ Below W7.heap.size W7 w8) := ⟨hqE, hlE, b8'⟩; have zX8 := zX7.keep b8'; have u0 := zX8.cell 0; have g0 := zX8.frozen 0; simp at u0; clear hqE hlE b8 b8'))
          all_goals (
            obtain ⟨hqE, hlE, b8⟩ := HQE.out
            have zr8 := zr7.keep b8
            have hd8 := hd7.chip b8 hqE B7.size
            have B8 := B7.trans (b8.mono B7.size)
            have zX9 := zX8.set 0 (.slice aE nE cE)
            have zr9 := zr8.other (B' := X) (by omega) 0 (.slice aE nE cE)
            have hd9 := hd8.svs (sv_one w8 X 0 (.slice aE nE cE)) (fun j hj hf => by
              simp at hf
              subst hf
              rcases List.mem_append.1 hj with h5 | h5
              · have := hqE.new j h5; omega
              · have := hlt.out j (List.mem_append_right _ h5); omega)
            have B9 : Below W0.heap.size W0 (w8.setCell ⟨X, 0, none⟩ (.slice aE nE cE)) := B8.setCell (p := ⟨X, 0, none⟩) hW1 _
            have HXF : Hid (∀ j ∈ fpDv aE nE cE fa1 m1 fc1 qE, j ≠ X) := fun j hj e => by
              subst e
              rcases List.mem_append.1 hj with h5 | h5
              · have := hqE.new j h5; omega
              · have := hlt.out j (List.mem_append_right _ h5); omega
            obtain ⟨W9, hW9⟩ : ∃ W, w8.setCell ⟨X, 0, none⟩ (.slice aE nE cE) = W := ⟨_, rfl⟩
            rw [hW9] at zX9 zr9 hd9 B9 ⊢
            clear hcR zX7 zr7 zT7 hd7 B7 zX8 zr8 hd8 B8 s0 u0 g0 hW9 HZH HQE hqE b8
            simp at zX9
            have y3 := zX9.cell 3
            have g3 := zX9.frozen 3
            simp at y3
            have zX10 := zX9.set 3 (.bool true)
            have zr10 := zr9.other (B' := X) (by omega) 3 (.bool true)
            have hd10 := hd9.svs (sv_one W9 X 3 (.bool true)) (fun j hj hf => by simp at hf; exact HXF.out j hj hf)
            have B10 : Below W0.heap.size W0 (W9.setCell ⟨X, 3, none⟩ (.bool true)) := B9.setCell (p := ⟨X, 3, none⟩) hW1 _
            go_upto_region 15 with fail
            obtain ⟨W10, hW10⟩ : ∃ W, W9.setCell ⟨X, 3, none⟩ (.bool true) = W := ⟨_, rfl⟩
            rw [hW10] at zX10 zr10 hd10 B10 ⊢
            clear hW10 y3 g3 zX9 zr9 hd9 B9
            simp at zX10
            have r0 := zr10.cell 0
            have r1 := zr10.cell 1
            have r2 := zr10.cell 2
            have r3 := zr10.cell 3
            have f0 := zr10.frozen 0
            have f1 := zr10.frozen 1
            have f2 := zr10.frozen 2
            have f3 := zr10.frozen 3
            have zf := (((zr10.set 0 (.slice aE nE cE)).set 1 (.int .i64 (ops + 1))).set 2 (.slice fa1 m1 fc1)).set 3 (.bool true)
            have d0 := zf.cell 0
            have d1 := zf.cell 1
            have d2 := zf.cell 2
            have d3 := zf.cell 3
            have y0 := zX10.cell 0
            have y1 := zX10.cell 1
            have y2 := zX10.cell 2
            have y3 := zX10.cell 3
            simp at r0 r1 r2 r3 d0 d1 d2 d3 y0 y1 y2 y3
            have HN : Hid _ := And.intro hd10 (And.intro hlE B10)
            clear zf hd10 zX10 zr10 B10 hlE
            go_wp2
            refine bodyPost_ret (v := .tuple #[.agg #[.slice aE nE cE, .int .i64 (ops + 1), .slice fa1 m1 fc1, .bool true], .int .i64 10]) (by simp [results, Tryz.f13, go_sem, d0, d1, d2, d3]) rfl ?_
            obtain ⟨hnd, hl, hbel⟩ := HN.out
            rw [← HGP.out]
            obtain ⟨e1, e2⟩ := HOS.out
            have hto : outDs 0 (some ⟨ft, fk, (q : Int)⟩) (bs.map BkR.D) (progAt (bs.map BkR.D) (k : Int).toNat zs) (badD (bs.map BkR.D) (k : Int).toNat) (fun t => progAt (bs.map BkR.D) (k : Int).toNat (zs.take t.toNat)) = progAt (bs.map BkR.D) k (zs) := by
              unfold outDs
              rw [if_pos rfl]
              dsimp only
              rw [if_neg e2]
              simp only [Int.toNat_natCast]
              rw [HQQ.out]
            rw [e1, hto, show outDown 0 (some ⟨ft, fk, (q : Int)⟩) false = true from (by unfold outDown; rw [if_pos rfl]; dsimp only; rw [if_neg e2]), show outCode 0 (some ⟨ft, fk, (q : Int)⟩) = 10 from (by unfold outCode; rw [if_pos rfl]; dsimp only; rw [if_neg e2])]
            have hH := HH.out
            have hw := HW.out
            have h1 : H + 1 < W0.heap.size := by omega
            have bel : Below w.heap.size w W10 := HB0.out.trans (hbel.mono HB0.out.size)
            have s : ∀ (W : World) (i : Nat) (v : Value), Below w.heap.size w W → Below w.heap.size w (W.setCell ⟨H + 1, i, none⟩ v) := fun W i v hb => hb.setCell (p := ⟨H + 1, i, none⟩) (by simp only; omega) v
            exact ⟨_, _, _, _, _, _, _, rfl, ((((hnd.set_below h1).set_below h1).set_below h1).set_below h1).wider HB0.out.size, hl, s _ _ _ (s _ _ _ (s _ _ _ (s _ _ _ bel)))⟩)
  · have hcn : (CD != 0) = true := by simp [hc0]
    have r0 := zr4.cell 0
    have r1 := zr4.cell 1
    have r2 := zr4.cell 2
    have r3 := zr4.cell 3
    have f0 := zr4.frozen 0
    have f1 := zr4.frozen 1
    have f2 := zr4.frozen 2
    have f3 := zr4.frozen 3
    have zf := (((zr4.set 0 (.slice a1 n1 c1)).set 1 (.int .i64 ops)).set 2 (.slice fa1 m1 fc1)).set 3 (.bool down)
    have d0 := zf.cell 0
    have d1 := zf.cell 1
    have d2 := zf.cell 2
    have d3 := zf.cell 3
    have y0 := zX4.cell 0
    have y1 := zX4.cell 1
    have y2 := zX4.cell 2
    have y3 := zX4.cell 3
    simp at r0 r1 r2 r3 d0 d1 d2 d3 y0 y1 y2 y3
    have HN : Hid _ := And.intro hd4 (And.intro hl B4)
    clear zf hd4 zX4 zr4 zH4 B4
    go_wp2
    refine bodyPost_ret (v := .tuple #[.agg #[.slice a1 n1 c1, .int .i64 ops, .slice fa1 m1 fc1, .bool down], .int .i64 CD]) (by simp [results, Tryz.f13, go_sem, d0, d1, d2, d3]) rfl ?_
    obtain ⟨hnd, hl, hbel⟩ := HN.out
    rw [← HGP.out]
    rw [outs_no rfl hc0]
    have hH := HH.out
    have hw := HW.out
    have h1 : H + 1 < W0.heap.size := by omega
    have bel : Below w.heap.size w W4 := HB0.out.trans (hbel.mono HB0.out.size)
    have s : ∀ (W : World) (i : Nat) (v : Value), Below w.heap.size w W → Below w.heap.size w (W.setCell ⟨H + 1, i, none⟩ v) := fun W i v hb => hb.setCell (p := ⟨H + 1, i, none⟩) (by simp only; omega) v
    exact ⟨_, _, _, _, _, _, _, rfl, ((((hnd.set_below h1).set_below h1).set_below h1).set_below h1).wider HB0.out.size, hl, s _ _ _ (s _ _ _ (s _ _ _ (s _ _ _ bel)))⟩
end

section
open Go.RowKit
/-- A device while it is written to. -/
structure LgS where
  ds : List BkD
  ops : Int
  down : Bool
/-- The code ahead of a try, the state behind it, its code. -/
noncomputable def stC (fs : List FtD) (k nb : Nat) (S : LgS) : Int := evCode S.ds S.ops fs S.down (codeP true S.ds (k : Int) nb)
noncomputable def stN (fs : List FtD) (k : Nat) (Z : List Int) (S : LgS) : LgS :=
  ⟨outDs (stC fs k Z.length S) (faD S.ops fs) S.ds (progAt S.ds ((k : Nat) : Int).toNat Z) (badD S.ds ((k : Nat) : Int).toNat) (fun t => progAt S.ds ((k : Nat) : Int).toNat (Z.take t.toNat)), outOps (stC fs k Z.length S) S.ops, outDown (stC fs k Z.length S) (faD S.ops fs) S.down⟩
noncomputable def stO (fs : List FtD) (k : Nat) (Z : List Int) (S : LgS) : Int := outCode (stC fs k Z.length S) (faD S.ops fs)
/-- What is answered: the device, whether the number is one more, the address, the code. -/
structure WrA where
  S : LgS
  more : Bool
  adr : Int
  code : Int
/-- So many tries. -/
noncomputable def wrA (fs : List FtD) (Z : List Int) (spare : Int) : Nat → LgS → WrA
  | 0, S => ⟨S, false, -1, 9⟩
  | f + 1, S =>
    if openD S.ds spare < 0 then ⟨S, false, -1, 9⟩
    else if stO fs (openD S.ds spare).toNat Z S = 0 then ⟨stN fs (openD S.ds spare).toNat Z S, true, openD S.ds spare * 8 + nextD S.ds (openD S.ds spare), 0⟩
    else if stO fs (openD S.ds spare).toNat Z S = 2 then wrA fs Z spare f (stN fs (openD S.ds spare).toNat Z S)
    else ⟨stN fs (openD S.ds spare).toNat Z S, (stN fs (openD S.ds spare).toNat Z S).down, -1, stO fs (openD S.ds spare).toNat Z S⟩
/-- Blocks that are not bad. -/
def gdN (ds : List BkD) : Nat := (ds.filter fun b => !b.bad).length
theorem gdN_le (ds : List BkD) : gdN ds ≤ ds.length := List.length_filter_le _ _
theorem gdN_set {ds : List BkD} {k : Nat} {b : BkD} (hb : ds[k]? = some b) (hg : b.bad = false) : gdN (ds.set k ⟨b.ps, b.wear, true⟩) + 1 = gdN ds := by
  obtain ⟨e1, e2⟩ := split_at hb (⟨b.ps, b.wear, true⟩ : BkD)
  unfold gdN
  rw [e2]
  conv => rhs; rw [e1]
  rw [List.filter_append, List.filter_append, List.filter_cons_of_neg (by simp), List.filter_cons_of_pos (by simp [hg])]
  simp
  omega
/-- What holds while a log is written to. -/
def LgI (fs : List FtD) (S : LgS) : Prop := devB S.ds S.ops fs = true ∧ S.down = false
theorem devB_parts {ds : List BkD} {ops : Int} {fs : List FtD} : devB ds ops fs = true ↔ ChOk ds ∧ (0 ≤ ops ∧ ops ≤ 100000) ∧ faultsB fs = true := by
  unfold devB
  simp only [Bool.and_eq_true, decide_eq_true_eq]
  rw [chipOkB_iff]
  exact ⟨fun h => ⟨h.1.1, h.1.2, h.2⟩, fun h => ⟨⟨h.1, h.2.1⟩, h.2.2⟩⟩
theorem fstD_hit {p : BkD → Bool} {ds : List BkD} (h : 0 ≤ fstD p ds) : ∃ (k : Nat) (b : BkD), fstD p ds = (k : Int) ∧ ds[k]? = some b ∧ p b = true := by
  unfold fstD at h ⊢
  cases hf : ds.findIdx? p with
  | none => rw [hf] at h; simp at h
  | some k =>
    rw [List.findIdx?_eq_some_iff_getElem] at hf
    obtain ⟨h1, h2, _⟩ := hf
    exact ⟨k, ds[k], rfl, List.getElem?_eq_getElem h1, h2⟩
/-- The open block has room. -/
theorem openD_hit {ds : List BkD} {spare : Int} (hC : ChOk ds) (h : 0 ≤ openD ds spare) : ∃ (k : Nat) (b : BkD), openD ds spare = (k : Int) ∧ ds[k]? = some b ∧ b.bad = false ∧ nextP b.ps < 8 := by
  unfold openD at h ⊢
  by_cases h1 : 0 ≤ fstD begB ds
  · rw [if_pos h1]
    obtain ⟨k, b, e, hk, hp⟩ := fstD_hit h1
    have h8 := (hC.2.2 b (List.mem_of_getElem? hk)).1
    unfold begB at hp
    simp at hp
    exact ⟨k, b, e, hk, hp.1, by omega⟩
  · rw [if_neg h1] at h ⊢
    by_cases h2 : spare < (freeD ds : Int)
    · rw [if_pos h2] at h ⊢
      obtain ⟨k, b, e, hk, hp⟩ := fstD_hit h
      unfold freeB at hp
      simp at hp
      exact ⟨k, b, e, hk, hp.1, by omega⟩
    · rw [if_neg h2] at h
      omega
theorem codeP_zero {ds : List BkD} {k nb : Nat} {b : BkD} (hk : ds[k]? = some b) (hb : b.bad = false) (hn : nextP b.ps < 8) (hz : nb ≤ 400) : codeP true ds (k : Int) nb = 0 := by
  have hl := (List.getElem?_eq_some_iff.1 hk).1
  have hnd : nextD ds (k : Int) = (nextP b.ps : Nat) := by unfold nextD; rw [if_pos (by omega)]; simp [hk]
  unfold codeP
  rw [if_neg (by omega)]
  unfold mayD
  rw [if_neg (by simp; omega)]
  simp only [Int.toNat_natCast, hk, Option.map_some, Option.getD_some, hb, hnd]
  rw [if_neg (by simp), if_neg (by simp; omega)]
theorem stC_eq {fs : List FtD} {k nb : Nat} {S : LgS} {b : BkD} (hI : LgI fs S) (hk : S.ds[k]? = some b) (hb : b.bad = false) (hn : nextP b.ps < 8) (hz : nb ≤ 400) : stC fs k nb S = if 100000 ≤ S.ops then 10 else 0 := by
  unfold stC evCode
  rw [codeP_zero hk hb hn hz, hI.1, hI.2]
  simp
/-- One try: its code, and that the device stays right. -/
theorem st_ok {fs : List FtD} {k : Nat} {Z : List Int} {S : LgS} {b : BkD} (hI : LgI fs S) (hk : S.ds[k]? = some b) (hb : b.bad = false) (hn : nextP b.ps < 8) (hz : Z.length ≤ 400) :
    devB (stN fs k Z S).ds (stN fs k Z S).ops fs = true ∧ (stN fs k Z S).ds.length = S.ds.length ∧
    ((stO fs k Z S = 0 ∧ (stN fs k Z S).down = false) ∨ (stO fs k Z S = 2 ∧ (stN fs k Z S).down = false ∧ gdN (stN fs k Z S).ds + 1 = gdN S.ds ∧ S.ops < 100000 ∧ (stN fs k Z S).ops = S.ops + 1) ∨ stO fs k Z S = 10) := by
  obtain ⟨hC, hops, hF⟩ := devB_parts.1 hI.1
  have hc := stC_eq (nb := Z.length) hI hk hb hn hz
  have hcp : ∀ Y : List Int, Y.length ≤ 400 → ChOk (progAt S.ds k Y) := fun Y hY => by
    have := ok_prog hC (k : Int) Y
    unfold programD at this
    rw [codeP_zero hk hb hn hY, if_pos rfl, Int.toNat_natCast] at this
    exact this
  have hcb : ChOk (badD S.ds k) := by
    unfold badD
    rw [hk]
    exact ok_set hC (hC.2.2 b (List.mem_of_getElem? hk))
  unfold stN stO
  rw [hc, Int.toNat_natCast]
  by_cases h1 : 100000 ≤ S.ops
  · rw [if_pos h1]
    refine ⟨?_, rfl, .inr (.inr rfl)⟩
    show devB S.ds S.ops fs = true
    exact hI.1
  · rw [if_neg h1]
    unfold outDs outOps outDown outCode
    simp only [if_true]
    cases ho : faD S.ops fs with
    | none =>
      dsimp only
      exact ⟨devB_parts.2 ⟨hcp Z hz, by omega, hF⟩, progAt_len _ _ _, .inl ⟨rfl, hI.2⟩⟩
    | some f =>
      dsimp only
      by_cases hf : f.kd = 1
      · rw [if_pos hf, if_pos hf, if_pos hf]
        refine ⟨devB_parts.2 ⟨hcb, by omega, hF⟩, ?_, .inr (.inl ⟨rfl, hI.2, ?_, by omega, trivial⟩)⟩
        · unfold badD; rw [hk]; simp
        · unfold badD; rw [hk]; exact gdN_set hk hb
      · rw [if_neg hf, if_neg hf, if_neg hf]
        refine ⟨devB_parts.2 ⟨hcp _ (by rw [List.length_take]; omega), by omega, hF⟩, progAt_len _ _ _, .inr (.inr rfl)⟩
end
end Go.Proofs.YtoeeblmnogeonaaGreatDoor
