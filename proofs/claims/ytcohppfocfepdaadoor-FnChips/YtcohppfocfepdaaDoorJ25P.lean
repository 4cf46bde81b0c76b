/-
  Joined: ChPr, DvC.
-/
import Derived.Test.YtcohppfocfepdaaDoorJ24P
namespace Go.Proofs.YtcohppfocfepdaaDoor
section
open Go.RowKit
/-- Bytes appended to an empty row of one's own: new ones. -/
theorem app_new {w WE W10 : World} {E nb : Nat} {zs : List Int} {v : Value} (bE : Below w.heap.size w WE) (hE : w.heap.size ≤ E) (hap : AppB WE (.slice (some ⟨E, 0, none⟩) 0 0) nb zs v W10) : Below w.heap.size w W10 ∧ RowB W10 v nb zs ∧ ∀ j, v.ownBlock = some j → w.heap.size ≤ j := by
  refine ⟨bE.grown hap.gr bE.size (fun g hg => by simp [Value.ownBlock] at hg; omega), OwnV.rowB hap.own, fun j hj => ?_⟩
  rcases hap.at_ with e | e
  · rw [hj] at e; simp [Value.ownBlock] at e; omega
  · rw [hj] at e; simp at e; have := bE.size; omega
set_option maxRecDepth 100000 in
set_option maxHeartbeats 8000000 in
theorem programS (a : Option Addr) (n cap : Nat) (bs : List BkR) (x : Int) (ba : Option Addr) (nb bc : Nat) (zs : List Int) (w : World) (hz : zs.length = nb) (hnb : nb ≤ 1048576) (ht : CR w a n bs) (hrb : Rd w ba zs) :
    Calls Tryd.prog 15 #[.agg #[.slice a n cap], .int .i64 x, .slice ba nb bc] w (ChCA w (programD (chipOkB (bs.map BkR.D)) (bs.map BkR.D) x zs) (codeP (chipOkB (bs.map BkR.D)) (bs.map BkR.D) x zs.length)) := by
  have hnn := ht.n
  have B0 : Below w.heap.size w ((w.alloc (.cells #[.slice a n cap] 26)).alloc (.cells #[.slice none 0 0] 26)) := ((Below.refl _ w).alloc (Nat.le_refl _) _).alloc (by simp) _
  have z0 := (Blk.new w 26 #[.slice a n cap]).alloc (.cells #[.slice none 0 0] 26)
  have z1 := Blk.new (w.alloc (.cells #[.slice a n cap] 26)) 26 #[.slice none 0 0]
  simp only [World.size_alloc] at z1
  have hws : ((w.alloc (.cells #[.slice a n cap] 26)).alloc (.cells #[.slice none 0 0] 26)).heap.size = w.heap.size + 2 := by simp
  obtain ⟨H, hH⟩ : ∃ H, w.heap.size = H := ⟨_, rfl⟩
  rw [hH] at z0 z1 hws
  have cE := fun (W : World) (h : CR W a n bs) => l10ProgramS a n cap bs x ba nb bc W hnb h
  have cN := fun (W : World) (h : CR W a n bs) => nextS a n cap bs x W h
  generalize hok : chipOkB (bs.map BkR.D) = ok at cE
  obtain ⟨code, hcode⟩ : ∃ code, codeP ok (bs.map BkR.D) x nb = code := ⟨_, rfl⟩
  rw [hcode] at cE
  have CE : Hid _ := cE
  have CN : Hid _ := cN
  have HOK : Hid (chipOkB (bs.map BkR.D) = ok) := hok
  have HCE : Hid (codeP ok (bs.map BkR.D) x nb = code) := hcode
  have HZL : Hid (zs.length = nb) := hz
  have HD : Hid (programD ok (bs.map BkR.D) x zs = if code = 0 then progAt (bs.map BkR.D) x.toNat zs else bs.map BkR.D) := by show _ = _; unfold programD; rw [hz, hcode]
  rw [hz]
  clear cE cN hok hcode hz
  go_enter Tryd.func15, Tryd.ntmps15
  have x00 := z0.cell 0
  simp at x00
  go_upto_region 1 with fail
  obtain ⟨W0, hW0⟩ : ∃ W, (w.alloc (.cells #[.slice a n cap] 26)).alloc (.cells #[.slice none 0 0] 26) = W := ⟨_, rfl⟩
  rw [hW0] at B0 z0 z1 hws x00 ⊢
  clear hW0
  have HW : Hid _ := hws
  have HH : Hid (w.heap.size = H) := hH
  have HT : Hid (CR W0 a n bs) := ht.keep B0
  have HRB : Hid (Rd W0 ba zs) := Rd.keep hrb B0
  have HB0 : Hid (Below H w W0) := by rw [← hH]; exact B0
  have HZ0 : Hid (Blk W0 H 26 #[.slice a n cap]) := z0
  have HZ1 : Hid (Blk W0 (H + 1) 26 #[.slice none 0 0]) := z1
  have hln : Hid (bs.length = n) := ht.len
  clear ht B0 z0 z1 hH hrb
  go_wp2_with fail
  refine (copyChS a n cap bs W0 HT.out).mono ?_
  rintro e w1 ⟨aC, nC, cC, tC, rfl, qC, hlC, b1⟩
  obtain rfl : nC = n := by rw [← hlC, qC.len]; simp [hln.out]
  have b2 : Below w1.heap.size w1 (w1.alloc (.cells #[.slice aC nC cC] 26)) := (Below.refl _ w1).alloc (Nat.le_refl _) _
  have zX := Blk.new w1 26 #[.slice aC nC cC]
  have y0 := ((Blk.keep HZ0.out b1).keep b2).cell 0
  simp at y0
  clear x00
  go_wp2_with fail
  obtain ⟨W2, hW2⟩ : ∃ W, w1.alloc (.cells #[.slice aC nC cC] 26) = W := ⟨_, rfl⟩
  rw [hW2] at b2 zX y0 ⊢
  clear hW2
  obtain ⟨X, hX⟩ : ∃ X, w1.heap.size = X := ⟨_, rfl⟩
  have hX0 : W0.heap.size ≤ X := by rw [← hX]; exact b1.size
  rw [hX] at zX ⊢
  have hFX : Hid (∀ g ∈ fpBs (.slice aC nC cC) tC, g < X) := fun g hg => by rw [← hX]; exact qC.own.lt g hg
  have q2 := qC.keep b2
  have B2 : Below W0.heap.size W0 W2 := b1.trans (b2.mono b1.size)
  clear qC b1 b2 hX
  refine (CE.out W2 (HT.out.keep B2)).mono ?_
  rintro e w3 ⟨rfl, b3⟩
  have q3 := q2.keep b3
  have z3 := zX.keep b3
  have B3 : Below W0.heap.size W0 w3 := B2.trans (b3.mono B2.size)
  clear q2 zX B2 b3 y0
  by_cases hc0 : code = 0
  · subst hc0
    have hmay := HCE.out
    unfold codeP at hmay
    split at hmay
    · omega
    obtain ⟨hokt, k, r, hxk, hrk, hbad, hfull⟩ := code_zero hmay
    subst hxk
    have hkn : k < nC := by have := (List.getElem?_eq_some_iff.1 hrk).1; have := hln.out; omega
    have hki : (k : Int) < (nC : Int) := by omega
    obtain ⟨t, htk, hrt⟩ := same_at (f := BkR.D) (ps := bs) (qs := tC) q3.D hrk
    have hrow := q3.own.1
    rw [hlC] at hrow
    rcases hrow.cases with ⟨_, h0, _⟩ | ⟨g, c, hv, hgl⟩
    · omega
    · simp only [Value.slice.injEq] at hv
      obtain ⟨rfl, _, rfl⟩ := hv
      have hgX : g < X := hFX.out g (fpBs_row rfl)
      have hg0 : W0.heap.size ≤ g := q3.new g (fpBs_row rfl)
      have HDC : Hid (tC.map BkR.D = bs.map BkR.D) := q3.D
      have hD : t.ps.map PgR.D = r.ps.map PgR.D ∧ t.wear = r.wear ∧ t.bad = r.bad := by unfold BkR.D at hrt; simp only [BkD.mk.injEq] at hrt; exact hrt
      have h8 : t.ps.length = 8 := by
        have h1 := HOK.out
        rw [hokt, chipOkB_iff] at h1
        have h2 := (h1.2.2 r.D (List.mem_map_of_mem (List.mem_of_getElem? hrk))).1
        have h3 : r.ps.length = 8 := by simpa [BkR.D] using h2
        have h4 := congrArg List.length hD.1
        simp at h4
        omega
      obtain ⟨m, hm⟩ : ∃ m, nextP (r.ps.map PgR.D) = m := ⟨_, rfl⟩
      have hm8 : m < 8 := by
        have h1 := nextP_le (r.ps.map PgR.D)
        rw [← hD.1] at h1
        simp [h8] at h1
        rw [nextD_in hrk] at hfull
        simp at hfull
        rw [hD.1] at h1
        omega
      have hmi : (m : Int) < 8 := by omega
      have hmn : ¬ (m : Int) < 0 := by omega
      have hNX : Hid (∀ W : World, CR W a nC bs → Calls Tryd.prog 36 #[.agg #[.slice a nC cap], .int .i64 (k : Int)] W fun e w' => e = .returned (.int .i64 (m : Int)) ∧ Below W.heap.size W w') := fun W h => by
        have := CN.out W h
        rw [nextD_in hrk, hm] at this
        exact this
      have hOP : OwnPs w3 t.v t.ps := q3.own.2 t (List.mem_of_getElem? htk)
      rcases hOP.1.cases with ⟨_, h0, _⟩ | ⟨P, pc, hpv, hPl⟩
      · omega
      unfold BkR.v at hpv
      simp only [Value.slice.injEq] at hpv
      obtain ⟨hta, _, hpc⟩ := hpv
      subst hpc
      have hrw : OwnE pgE 55 w3 (.slice (some ⟨P, 0, none⟩) t.ps.length t.cap) t.ps.length t.ps := by have := hOP.1; unfold BkR.v at this; rw [hta] at this; exact this
      have hPX : P < X := hFX.out P (fpBs_bk (List.mem_of_getElem? htk) (fpPs_row (by unfold BkR.v; rw [hta]; rfl)))
      have hP0 : W0.heap.size ≤ P := q3.new P (fpBs_bk (List.mem_of_getElem? htk) (fpPs_row (by unfold BkR.v; rw [hta]; rfl)))
      have hgP : Hid (g ≠ P) := fun e => (NewBs.row q3).1 (List.mem_flatMap.2 ⟨t, List.mem_of_getElem? htk, by rw [e]; exact fpPs_row (by unfold BkR.v; rw [hta]; rfl)⟩)
      have hall : Hid (∀ W : World, Below w3.drew.heap.size w3.drew W → W.cell? ⟨X, 0, none⟩ = some (.slice (some ⟨g, 0, none⟩) nC cC) ∧ W.cell? ⟨g, k * 3, none⟩ = some (.slice (some ⟨P, 0, none⟩) 8 t.cap) ∧ W.cell? ⟨H, 0, none⟩ = some (.slice a nC cap)) := fun W hW => by
        have b3 : Below w3.heap.size w3 W := (Below.refl w3.heap.size w3).drew.trans hW
        refine ⟨by have := (z3.keep b3).cell 0; simp at this; exact this, ?_, by have := (Blk.keep HZ0.out (B3.trans (b3.mono B3.size))).cell 0; simp at this; exact this⟩
        have := (hrow.keep b3).cell k 0 t htk (by decide)
        rw [show (bkE.en t)[0]? = some (.slice t.a t.ps.length t.cap) from rfl, hta, h8] at this
        exact this
      have hpg : Hid (∀ W : World, Below w3.drew.heap.size w3.drew W → ∃ v0 v1, W.cell? ⟨P, m * 2, none⟩ = some v0 ∧ W.cell? ⟨P, m * 2 + 1, none⟩ = some v1 ∧ W.frozen? ⟨P, m * 2, none⟩ = false ∧ W.frozen? ⟨P, m * 2 + 1, none⟩ = false ∧ (∃ v2, (W.setCell ⟨P, m * 2, none⟩ (.bool true)).cell? ⟨P, m * 2 + 1, none⟩ = some v2) ∧ (W.setCell ⟨P, m * 2, none⟩ (.bool true)).frozen? ⟨P, m * 2 + 1, none⟩ = false) := fun W hW => by
        have b3 : Below w3.heap.size w3 W := (Below.refl w3.heap.size w3).drew.trans hW
        have hr := hrw.keep b3
        obtain ⟨p, hp⟩ : ∃ p, t.ps[m]? = some p := ⟨_, List.getElem?_eq_getElem (by omega)⟩
        have hs := hr.set m 0 p ⟨true, p.a, p.cap, p.zs⟩ (.bool true) hp (by decide) rfl
        have c0 := hr.cell m 0 p hp (by decide)
        have c1 := hr.cell m 1 p hp (by decide)
        have c2 := hs.cell m 1 ⟨true, p.a, p.cap, p.zs⟩ (get_set hp) (by decide)
        exact ⟨_, _, c0, c1, hr.frozen _, hr.frozen _, ⟨_, c2⟩, hs.frozen _⟩
      have hTd : CR w3.drew a nC bs := HT.out.keep (B3.drew)
      have bA : Below w3.drew.heap.size w3.drew (w3.drew.alloc (.cells #[] 5)) := (Below.refl _ _).alloc (Nat.le_refl _) _
      have hcN := hNX.out w3.drew hTd
      have hcM : Calls Tryd.prog 36 #[.agg #[.slice a nC cap], .int .i64 (k : Int)] (w3.alloc (.cells #[] 5)).drew fun e w' => e = .returned (.int .i64 (m : Int)) ∧ Below (w3.drew.alloc (.cells #[] 5)).heap.size (w3.drew.alloc (.cells #[] 5)) w' := hNX.out (w3.drew.alloc (.cells #[] 5)) (hTd.keep bA)
      have HRD : Hid (∀ W : World, Below w3.drew.heap.size w3.drew W → Rd W ba zs) := fun W hW => Rd.keep HRB.out (B3.trans (((Below.refl w3.heap.size w3).drew.trans hW).mono B3.size))
      have hcc0 : ((0 : Int) == 0) = true := rfl
      have HBA : Hid _ := bA
      have HPG : Hid (NewBs w3 W0.heap.size (.slice (some ⟨g, 0, none⟩) nC cC) (bs.map BkR.D) tC ∧ tC.length = nC ∧ tC[k]? = some t ∧ t.a = some ⟨P, 0, none⟩ ∧ m < t.ps.length) := ⟨q3, hlC, htk, hta, by omega⟩
      have HFIN : Hid (Blk w3 X 26 #[.slice (some ⟨g, 0, none⟩) nC cC] ∧ Below W0.heap.size W0 w3 ∧ X < w3.heap.size) := ⟨z3, B3, z3.lt⟩
      have HRR : Hid (bs[k]? = some r ∧ t.ps.map PgR.D = r.ps.map PgR.D ∧ t.wear = r.wear ∧ t.bad = r.bad ∧ nextP (r.ps.map PgR.D) = m) := ⟨hrk, hD.1, hD.2.1, hD.2.2, hm⟩
      obtain ⟨s1, s2, s3⟩ := hall.out w3.drew (Below.refl _ _)
      obtain ⟨tcap, htcap⟩ : ∃ tc, t.cap = tc := ⟨_, rfl⟩
      rw [htcap] at s2 hall
      clear hokt hmay hfull hrow hrw hOP q3 z3 hrt hD hm h8 hrk htk hlC hta hTd bA
      go_upto_region 4 with fail
      refine wp_region_noPanic ?_
      refine wp_region_last (fun W : World => W.cell? ⟨X, 0, none⟩ = some (.slice (some ⟨g, 0, none⟩) nC cC) ∧ W.cell? ⟨g, k * 3, none⟩ = some (.slice (some ⟨P, 0, none⟩) 8 tcap) ∧ W.cell? ⟨H, 0, none⟩ = some (.slice a nC cap)) 14 (by kernel_rfl) (by kernel_rfl) (by go_keep) 14 (by kernel_rfl) (fun hS => ?_)
      refine wpAnyH_take (i := 0) (v := ?gv1) rfl (by kernel_rfl) (by kernel_rfl) (by kernel_rfl) (fun _ _ _ h => h) (Or.inl ⟨by kernel_rfl, ?gy1⟩) (by assumption) ?gr1
      case gy1 => (intro w' hSw; (try dsimp only at hSw); go_simp; (try with_reducible rfl))
      try simp only [Act.put, List.setIfInBounds_toArray, List.set_cons_zero, List.set_cons_succ, List.getElem_toArray, List.getElem_cons_zero]
      refine wpAnyH_take (i := 1) (v := ?gv2) rfl (by kernel_rfl) (by kernel_rfl) (by kernel_rfl) (fun _ _ _ h => h) (Or.inl ⟨by kernel_rfl, ?gy2⟩) (by assumption) ?gr2
      case gy2 => (intro w' hSw; (try dsimp only at hSw); go_simp; (try with_reducible rfl))
      try simp only [Act.put, List.setIfInBounds_toArray, List.set_cons_zero, List.set_cons_succ, List.getElem_toArray, List.getElem_cons_succ, List.getElem_cons_zero]
      refine wpAnyH_take (i := 2) (v := ?gv3) rfl (by kernel_rfl) (by kernel_rfl) (by kernel_rfl) (fun _ _ _ h => h) (Or.inl ⟨by kernel_rfl, ?gy3⟩) (by assumption) ?gr3
      case gy3 => (intro w' hSw; (try dsimp only at hSw); go_simp; (try with_reducible rfl))
      try simp only [Act.put, List.setIfInBounds_toArray, List.set_cons_zero, List.set_cons_succ, List.getElem_toArray, List.getElem_cons_succ, List.getElem_cons_zero]
      refine wpAnyH_take (i := 3) (v := ?gv4) rfl (by kernel_rfl) (by kernel_rfl) (by kernel_rfl) (fun _ _ _ h => h) (Or.inl ⟨by kernel_rfl, ?gy4⟩) (by assumption) ?gr4
      case gy4 => (intro w' hSw; (try dsimp only at hSw); go_simp; (try with_reducible rfl))
      try simp only [Act.put, List.setIfInBounds_toArray, List.set_cons_zero, List.set_cons_succ, List.getElem_toArray, List.getElem_cons_succ, List.getElem_cons_zero]
      refine wpAnyH_take (i := 4) (v := ?gv5) rfl (by kernel_rfl) (by kernel_rfl) (by kernel_rfl) (fun _ _ _ h => h) (Or.inl ⟨by kernel_rfl, ?gy5⟩) (by assumption) ?gr5
      case gy5 => (intro w' hSw; (try dsimp only at hSw); go_simp; (try with_reducible rfl))
      try simp only [Act.put, List.setIfInBounds_toArray, List.set_cons_zero, List.set_cons_succ, List.getElem_toArray, List.getElem_cons_succ, List.getElem_cons_zero]
      refine wpAnyH_take (i := 5) (v := ?gv6) rfl (by kernel_rfl) (by kernel_rfl) (by kernel_rfl) (fun _ _ _ h => h) (Or.inl ⟨by kernel_rfl, ?gy6⟩) (by assumption) ?gr6
      case gy6 => (intro w' hSw; (try dsimp only at hSw); go_simp; (try with_reducible rfl))
      try simp only [Act.put, List.setIfInBounds_toArray, List.set_cons_zero, List.set_cons_succ, List.getElem_toArray, List.getElem_cons_succ, List.getElem_cons_zero]
      refine wpAnyH_take (i := 6) (v := ?gv7) rfl (by kernel_rfl) (by kernel_rfl) (by kernel_rfl) (fun _ _ _ h => h) (Or.inl ⟨by kernel_rfl, ?gy7⟩) (by assumption) ?gr7
      case gy7 => (intro w' hSw; (try dsimp only at hSw); go_simp; (try with_reducible rfl))
      try simp only [Act.put, List.setIfInBounds_toArray, List.set_cons_zero, List.set_cons_succ, List.getElem_toArray, List.getElem_cons_succ, List.getElem_cons_zero]
      refine wpAnyH_take (i := 7) (v := ?gv8) rfl (by kernel_rfl) (by kernel_rfl) (by kernel_rfl) (fun _ _ _ h => h) (Or.inl ⟨by kernel_rfl, ?gy8⟩) (by assumption) ?gr8
      case gy8 => (intro w' hSw; (try dsimp only at hSw); go_simp; (try with_reducible rfl))
      try simp only [Act.put, List.setIfInBounds_toArray, List.set_cons_zero, List.set_cons_succ, List.getElem_toArray, List.getElem_cons_succ, List.getElem_cons_zero]
      refine wpAnyH_take (i := 10) (v := ?gv9) rfl (by kernel_rfl) (by kernel_rfl) (by kernel_rfl) (fun _ _ _ h => h) (Or.inl ⟨by kernel_rfl, ?gy9⟩) (by assumption) ?gr9
      case gy9 => (intro w' hSw; (try dsimp only at hSw); go_simp; (try with_reducible rfl))
      try simp only [Act.put, List.setIfInBounds_toArray, List.set_cons_zero, List.set_cons_succ, List.getElem_toArray, List.getElem_cons_succ, List.getElem_cons_zero]
      refine wpAnyH_ready (rs := [8, 9]) (by kernel_rfl) (by simp) ?_
      refine AllReadyH.cons rfl (fun K hK => ?_) (AllReadyH.cons rfl (fun K hK => ?_) AllReadyH.nil)
      go_simp
      (with_reducible refine hcN.mono ?_)
      rintro e W8 ⟨rfl, b8⟩
      clear hS
      try dsimp only
      refine Shut.out hK _ _ (hall.out W8 b8) (fun hS => ?_)
      try simp only [Act.put, List.setIfInBounds_toArray, List.set_cons_zero, List.set_cons_succ, List.getElem_toArray, List.getElem_cons_succ, List.getElem_cons_zero]
      refine wpAnyH_ready (rs := [9]) (by kernel_rfl) (by simp) ?_
      refine AllReadyH.cons rfl (fun K hK => ?_) AllReadyH.nil
      go_simp
      have bE : Below w3.drew.heap.size w3.drew (W8.alloc (.cells #[] 5)) := b8.alloc b8.size _
      have HBE : Hid _ := bE
      have happ := (fun ty => app_bytes (W8.alloc (.cells #[] 5)) (.slice (some ⟨W8.heap.size, 0, none⟩) 0 0) 0 [] ba nb bc zs HZL.out (by omega) ownV_fresh (HRD.out _ bE) ty)
      rw [Nat.zero_add, List.nil_append] at happ
      have HAP : Hid _ := happ
      clear happ bE
      clear hS
      try dsimp only
      refine Shut.out hK _ _ (hall.out _ HBE.out) (fun hS => ?_)
      try simp only [Act.put, List.setIfInBounds_toArray, List.set_cons_zero, List.set_cons_succ, List.getElem_toArray, List.getElem_cons_succ, List.getElem_cons_zero]
      refine wpAnyH_ready (rs := [11]) (by kernel_rfl) (by simp) ?_
      refine AllReadyH.cons rfl (fun K hK => ?_) AllReadyH.nil
      refine step_appAny (W8.alloc (.cells #[] 5)) rfl (.tmp 27) (.tmp 28) 22 rfl (.slice (some ⟨W8.heap.size, 0, none⟩) 0 0) (.slice ba nb bc) _ rfl rfl HAP.out ?_
      intro v1 W10 hap
      obtain ⟨b10, rB, nB⟩ := app_new HBE.out b8.size hap
      obtain ⟨a1, c1, rfl, _⟩ := rB.form
      have HBR : Hid _ := And.intro b10 (And.intro rB (And.intro (AppB.room hap) nB))
      obtain ⟨u0, u1, e0, e1, e2, e3, ⟨u2, e4⟩, e5⟩ := hpg.out W10 b10
      clear b10 rB nB hap
      clear hS
      try dsimp only
      refine Shut.out hK _ _ (hall.out _ HBR.out.1) (fun hS => ?_)
      try simp only [Act.put, List.setIfInBounds_toArray, List.set_cons_zero, List.set_cons_succ, List.getElem_toArray, List.getElem_cons_succ, List.getElem_cons_zero]
      refine wpAnyH_take (i := 12) (v := ?gv10) rfl (by kernel_rfl) (by kernel_rfl) (by kernel_rfl) (fun _ _ _ h => h) (Or.inl ⟨by kernel_rfl, ?gy10⟩) (by assumption) ?gr10
      case gy10 => (intro w' hSw; (try dsimp only at hSw); go_simp; (try with_reducible rfl))
      try simp only [Act.put, List.setIfInBounds_toArray, List.set_cons_zero, List.set_cons_succ, List.getElem_toArray, List.getElem_cons_succ, List.getElem_cons_zero]
      refine wpAnyH_take (i := 13) (v := ?gv11) rfl (by kernel_rfl) (by kernel_rfl) (by kernel_rfl) (fun _ _ _ h => h) (Or.inl ⟨by kernel_rfl, ?gy11⟩) (by assumption) ?gr11
      case gy11 => (intro w' hSw; (try dsimp only at hSw); go_simp; (try with_reducible rfl))
      try simp only [Act.put, List.setIfInBounds_toArray, List.set_cons_zero, List.set_cons_succ, List.getElem_toArray, List.getElem_cons_succ, List.getElem_cons_zero]
      refine wpAnyH_done (by kernel_rfl) ?_ _
      refine wpOp_last rfl (fun K hK => ?_)
      clear hS
      go_simp
      refine Shut.out hK _ _ (NoPanic.normal ?_)
      rotate_left 1
      go_simp
      clear hS
      try dsimp only
      refine Shut.out hK _ _ (hall.out _ HBA.out) (fun hS => ?_)
      try simp only [Act.put, List.setIfInBounds_toArray, List.set_cons_zero, List.set_cons_succ, List.getElem_toArray, List.getElem_cons_succ, List.getElem_cons_zero]
      refine wpAnyH_ready (rs := [8]) (by kernel_rfl) (by simp) ?_
      refine AllReadyH.cons rfl (fun K hK => ?_) AllReadyH.nil
      go_simp
      (with_reducible refine hcM.mono ?_)
      rintro e W8 ⟨rfl, b8⟩
      have bE : Below w3.drew.heap.size w3.drew W8 := HBA.out.trans (b8.mono HBA.out.size)
      have HBE : Hid _ := bE
      have happ := (fun ty => app_bytes W8 (.slice (some ⟨w3.heap.size, 0, none⟩) 0 0) 0 [] ba nb bc zs HZL.out (by omega) (OwnV.keep (ownV_fresh (W := w3.drew)) b8) (HRD.out _ bE) ty)
      rw [Nat.zero_add, List.nil_append] at happ
      have HAP : Hid _ := happ
      clear happ bE
      clear hS
      try dsimp only
      refine Shut.out hK _ _ (hall.out _ HBE.out) (fun hS => ?_)
      try simp only [Act.put, List.setIfInBounds_toArray, List.set_cons_zero, List.set_cons_succ, List.getElem_toArray, List.getElem_cons_succ, List.getElem_cons_zero]
      refine wpAnyH_ready (rs := [11]) (by kernel_rfl) (by simp) ?_
      refine AllReadyH.cons rfl (fun K hK => ?_) AllReadyH.nil
      refine step_appAny W8 rfl (.tmp 27) (.tmp 28) 22 rfl (.slice (some ⟨w3.heap.size, 0, none⟩) 0 0) (.slice ba nb bc) _ rfl rfl HAP.out ?_
      intro v1 W10 hap
      obtain ⟨b10, rB, nB⟩ := app_new HBE.out (Nat.le_refl _) hap
      obtain ⟨a1, c1, rfl, _⟩ := rB.form
      have HBR : Hid _ := And.intro b10 (And.intro rB (And.intro (AppB.room hap) nB))
      obtain ⟨u0, u1, e0, e1, e2, e3, ⟨u2, e4⟩, e5⟩ := hpg.out W10 b10
      clear b10 rB nB hap
      clear hS
      try dsimp only
      refine Shut.out hK _ _ (hall.out _ HBR.out.1) (fun hS => ?_)
      try simp only [Act.put, List.setIfInBounds_toArray, List.set_cons_zero, List.set_cons_succ, List.getElem_toArray, List.getElem_cons_succ, List.getElem_cons_zero]
      refine wpAnyH_take (i := 12) (v := ?gv12) rfl (by kernel_rfl) (by kernel_rfl) (by kernel_rfl) (fun _ _ _ h => h) (Or.inl ⟨by kernel_rfl, ?gy12⟩) (by assumption) ?gr12
      case gy12 => (intro w' hSw; (try dsimp only at hSw); go_simp; (try with_reducible rfl))
      try simp only [Act.put, List.setIfInBounds_toArray, List.set_cons_zero, List.set_cons_succ, List.getElem_toArray, List.getElem_cons_succ, List.getElem_cons_zero]
      refine wpAnyH_take (i := 13) (v := ?gv13) rfl (by kernel_rfl) (by kernel_rfl) (by kernel_rfl) (fun _ _ _ h => h) (Or.inl ⟨by kernel_rfl, ?gy13⟩) (by assumption) ?gr13
      case gy13 => (intro w' hSw; (try dsimp only at hSw); go_simp; (try with_reducible rfl))
      try simp only [Act.put, List.setIfInBounds_toArray, List.set_cons_zero, List.set_cons_succ, List.getElem_toArray, List.getElem_cons_succ, List.getElem_cons_zero]
      refine wpAnyH_done (by kernel_rfl) ?_ _
      refine wpOp_last rfl (fun K hK => ?_)
      clear hS
      go_simp
      refine Shut.out hK _ _ (NoPanic.normal ?_)
      rotate_left 1
      all_goals (
        clear e0 e1 e2 e3 e4 e5 s1 s2 s3 b8 HBE HAP hcN hcM
        obtain ⟨q3, hlC, htk, hta, hml⟩ := HPG.out
        obtain ⟨b10, rB, rO, nB⟩ := HBR.out
        obtain ⟨z3, B3', hX3⟩ := HFIN.out
        have hd3 := (Below.refl w3.heap.size w3).drew
        have b10' : Below w3.heap.size w3 W10 := hd3.trans b10
        have q5 := NewBs.page (q3.keep hd3) hlC htk hta hml b10 HZL.out rB rO nB
        have z5 : Blk ((W10.setCell ⟨P, m * 2, none⟩ (.bool true)).setCell ⟨P, m * 2 + 1, none⟩ (.slice a1 nb c1)) X 26 #[.slice (some ⟨g, 0, none⟩) nC cC] := ((z3.keep b10').other (B' := P) (by omega) (m * 2) (.bool true)).other (B' := P) (by omega) (m * 2 + 1) (.slice a1 nb c1)
        have B5 : Below W0.heap.size W0 ((W10.setCell ⟨P, m * 2, none⟩ (.bool true)).setCell ⟨P, m * 2 + 1, none⟩ (.slice a1 nb c1)) := ((B3'.trans (b10'.mono B3'.size)).setCell (p := ⟨P, m * 2, none⟩) hP0 _).setCell (p := ⟨P, m * 2 + 1, none⟩) hP0 _
        clear q3 b10 b10' rB rO nB z3 B3' hd3 HBR HPG HFIN htk hta hml B3
        obtain ⟨W5, hW5⟩ : ∃ W, (W10.setCell ⟨P, m * 2, none⟩ (.bool true)).setCell ⟨P, m * 2 + 1, none⟩ (.slice a1 nb c1) = W := ⟨_, rfl⟩
        rw [hW5] at q5 z5 B5 ⊢
        clear hW5
        have x0 := z5.cell 0
        have zr := Blk.keep HZ1.out B5
        have r0 := zr.cell 0
        have f0 := zr.frozen 0
        have zf := zr.set 0 (.slice (some ⟨g, 0, none⟩) nC cC)
        have d0 := zf.cell 0
        simp at x0 r0 d0
        have HQ : Hid _ := q5
        have HB6 : Hid (Below W0.heap.size W0 W5) := B5
        have HLL : Hid (tC.length = nC) := hlC
        clear q5 z5 B5 zr zf hlC
        go_wp2
        refine bodyPost_ret (v := .tuple #[.agg #[.slice (some ⟨g, 0, none⟩) nC cC], .int .i64 0]) (by simp [results, Tryd.f15, go_sem, d0]) rfl ?_
        have hw := HW.out
        have hH := HH.out
        have hbs := HB0.out
        have hb3 := HB6.out
        obtain ⟨e1, e2, e3, e4, e5⟩ := HRR.out
        have hfin : programD ok (bs.map BkR.D) (k : Int) zs = (bs.map BkR.D).set k ⟨(t.ps.map PgR.D).set m ⟨true, zs⟩, t.wear, t.bad⟩ := (by
          rw [HD.out, if_pos trivial]
          unfold progAt
          simp only [Int.toNat_natCast, List.getElem?_map, e1, Option.map_some]
          rw [e2, e3, e4, ← e5]
          rfl)
        rw [hfin, HCE.out]
        have bel : Below w.heap.size w W5 := (by rw [hH]; exact hbs.trans (hb3.mono (by omega)))
        exact ⟨some ⟨g, 0, none⟩, nC, cC, _, rfl, NewBs.wider (B := W0.heap.size) (NewBs.set_below (B := W0.heap.size) (j := H + 1) HQ.out (by omega)) (by omega), by rw [List.length_set]; exact HLL.out, bel.setCell (p := ⟨H + 1, 0, none⟩) (by simp only; omega) _⟩)
  · have hcb : (code == 0) = false := by simp [hc0]
    have x0 := z3.cell 0
    have zr := Blk.keep HZ1.out B3
    have r0 := zr.cell 0
    have f0 := zr.frozen 0
    have zf := zr.set 0 (.slice aC nC cC)
    have d0 := zf.cell 0
    simp at x0 r0 d0
    have HQ : Hid _ := q3
    have HB3 : Hid (Below W0.heap.size W0 w3) := B3
    have HL : Hid (tC.length = nC) := hlC
    have HC0 : Hid (¬ code = 0) := hc0
    clear q3 z3 B3 zr zf hlC hc0
    go_wp2
    refine bodyPost_ret (v := .tuple #[.agg #[.slice aC nC cC], .int .i64 code]) (by simp [results, Tryd.f15, go_sem, d0]) rfl ?_
    have hw := HW.out
    have hH := HH.out
    have hbs := HB0.out
    have hb3 := HB3.out
    rw [HD.out, if_neg HC0.out, HCE.out]
    have bel : Below w.heap.size w w3 := by rw [hH]; exact hbs.trans (hb3.mono (by omega))
    exact ⟨aC, nC, cC, tC, rfl, NewBs.wider (B := W0.heap.size) (NewBs.set_below (B := W0.heap.size) (j := H + 1) HQ.out (by omega)) (by omega), HL.out, bel.setCell (p := ⟨H + 1, 0, none⟩) (by simp only; omega) _⟩
end

section
open Go.RowKit
theorem RdE.news {α : Type} {E : El α} {rd : α → Prop} {W : World} {a : Option Addr} {rs : List α} (h : RdE E rd W a rs) : rs = [] ∨ ∃ ad, a = some ad ∧ ∀ j u, (E.xv rs)[j]? = some u → W.cell? (ad.add j) = some u := by
  rcases h with h | ⟨b, off, rfl, hc⟩
  · exact .inl h
  · refine .inr ⟨_, rfl, fun j u hj => ?_⟩
    have hp := E.pos
    have hl : j < rs.length * E.k := by
      have := (List.getElem?_eq_some_iff.1 hj).1
      rw [E.xv_length] at this
      exact this
    have hi : j / E.k < rs.length := (Nat.div_lt_iff_lt_mul hp).2 hl
    have hr : rs[j / E.k]? = some rs[j / E.k] := List.getElem?_eq_getElem hi
    have hm : j % E.k < E.k := Nat.mod_lt _ hp
    have hjj : j / E.k * E.k + j % E.k = j := by rw [Nat.mul_comm]; exact Nat.div_add_mod j E.k
    have h1 := (hc _ _ hr).1 _ hm
    rw [Nat.add_assoc, hjj] at h1
    have h2 := E.xv_at rs _ _ _ hr hm
    rw [hjj] at h2
    rw [show (⟨b, off, none⟩ : Addr).add j = ⟨b, off + j, none⟩ by simp [Addr.add], h1, ← h2]
    exact hj
end
end Go.Proofs.YtcohppfocfepdaaDoor
