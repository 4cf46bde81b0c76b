/-
  Joined: ChSp, ChMk.
-/
import Derived.Test.YtghfopafmjkpdaaDoorJ19Q
namespace Go.Proofs.YtghfopafmjkpdaaDoor
section
open Go.RowKit
set_option maxRecDepth 100000 in
set_option maxHeartbeats 8000000 in
theorem copyChS (a : Option Addr) (n cap : Nat) (bs : List BkR) (w : World) (ht : CR w a n bs) :
    Calls Tryd.prog 31 #[.agg #[.slice a n cap]] w (ChA w (bs.map BkR.D)) := by
  have hnn := ht.n
  have B0 : Below w.heap.size w ((w.alloc (.cells #[.slice a n cap] 29)).alloc (.cells #[.slice none 0 0] 29)) := ((Below.refl _ w).alloc (Nat.le_refl _) _).alloc (by simp) _
  have z0 := (Blk.new w 29 #[.slice a n cap]).alloc (.cells #[.slice none 0 0] 29)
  have z1 := Blk.new (w.alloc (.cells #[.slice a n cap] 29)) 29 #[.slice none 0 0]
  simp only [World.size_alloc] at z1
  have hws : ((w.alloc (.cells #[.slice a n cap] 29)).alloc (.cells #[.slice none 0 0] 29)).heap.size = w.heap.size + 2 := by simp
  obtain ⟨H, hH⟩ : ∃ H, w.heap.size = H := ⟨_, rfl⟩
  rw [hH] at z0 z1 hws
  go_enter Tryd.func31, Tryd.ntmps31
  go_upto_region 1 with fail
  obtain ⟨W0, hW0⟩ : ∃ W, (w.alloc (.cells #[.slice a n cap] 29)).alloc (.cells #[.slice none 0 0] 29) = W := ⟨_, rfl⟩
  rw [hW0] at B0 z0 z1 hws ⊢
  clear hW0
  have cc : CC W0 (W0.alloc (.cells #[.slice none 0 0] 29)) W0.heap.size (.slice none 0 0) [] [] := CC.new ((Below.refl _ _).alloc (Nat.le_refl _) _) (Blk.new W0 29 #[.slice none 0 0]) (Nat.le_refl _)
  have HW : Hid _ := hws
  have HH : Hid (w.heap.size = H) := hH
  have HT : Hid (CR W0 a n bs) := ht.keep B0
  have HB0 : Hid (Below H w W0) := by rw [← hH]; exact B0
  have HZ0 : Hid (Blk W0 H 29 #[.slice a n cap]) := z0
  have HZ1 : Hid (Blk W0 (H + 1) 29 #[.slice none 0 0]) := z1
  have hln : Hid (bs.length = n) := ht.len
  clear ht B0 z0 z1 hH
  rw [hws] at cc
  go_upto_region 3 with fail
  try rw [hws]
  clear hws
  go_loopw [4] (fun i wr => ∃ (k : Nat) (v : Value) (us : List BkR), k ≤ n ∧ i = .int .i64 k ∧ us.length = k ∧ Hid (CC W0 wr (H + 2) v us ((bs.take k).map BkR.D))) (fun i _ => n - (intOf i).toNat)
  case atStart => exact ⟨0, .slice none 0 0, [], by omega, rfl, rfl, cc⟩
  case round =>
    obtain ⟨k, v, us, hk, rfl, hus, hcc⟩ := hrel
    clear cc
    have y0 := (Blk.keep HZ0.out hcc.out.bel).cell 0
    simp at y0
    by_cases hkn : k < n
    · have hki : (k : Int) < (n : Int) := by omega
      obtain ⟨b, off, r, rfl, hlt, hrk, x3, hrp, htp⟩ := HT.out.some hkn
      obtain ⟨c0, c1, c2⟩ := x3
      have hbD : Hid ((bs.take (k + 1)).map BkR.D = (bs.take k).map BkR.D ++ [⟨r.ps.map PgR.D, r.wear, r.bad⟩]) := by show _ = _; rw [List.take_add_one, hrk]; simp [BkR.D]
      obtain ⟨ra, rc, rp, wear, bad⟩ := r
      dsimp only at c0 c1 c2 hrp htp hbD
      obtain ⟨n1, hn1⟩ : ∃ n1, rp.length = n1 := ⟨_, rfl⟩
      rw [hn1] at c0
      have HN1 : Hid (rp.length = n1) := hn1
      have hcells : Hid (∀ W : World, Below W0.heap.size W0 W → W.cell? ⟨H, 0, none⟩ = some (.slice (some ⟨b, off, none⟩) n cap) ∧ W.cell? ⟨b, off + k * 3, none⟩ = some (.slice ra n1 rc) ∧ W.cell? ⟨b, off + k * 3 + 1, none⟩ = some (.int .i64 wear) ∧ W.cell? ⟨b, off + k * 3 + 2, none⟩ = some (.bool bad)) := fun W hW => ⟨by have := (Blk.keep HZ0.out hW).cell 0; simpa using this, (hW.cell (p := ⟨b, off + k * 3, none⟩) hlt).trans c0, (hW.cell (p := ⟨b, off + k * 3 + 1, none⟩) hlt).trans c1, (hW.cell (p := ⟨b, off + k * 3 + 2, none⟩) hlt).trans c2⟩
      have ccd : CC W0 wr.drew (H + 2) v us ((bs.take k).map BkR.D) := hcc.out.keep (Below.refl _ _).drew
      have x0 := ccd.x.cell 0
      simp at x0
      obtain ⟨y1, y2, y3, y4⟩ := hcells.out wr.drew ccd.bel
      have hcall := copyBlkS ra n1 rc wear bad rp wr.drew hn1 htp (hrp.keep ccd.bel)
      have HCC : Hid (CC W0 wr.drew (H + 2) v us ((bs.take k).map BkR.D)) := ccd
      clear hrk hrp htp hn1 hcc c0 c1 c2 hlt ccd y0
      have y0 : wr.cell? ⟨H, 0, none⟩ = some (.slice (some ⟨b, off, none⟩) n cap) := y1
      go_upto_region 5 with fail
      clear y0
      refine wp_region_noPanic ?_
      refine wp_region_last (fun W : World => W.cell? ⟨H + 2, 0, none⟩ = some v ∧ W.cell? ⟨H, 0, none⟩ = some (.slice (some ⟨b, off, none⟩) n cap) ∧ W.cell? ⟨b, off + k * 3, none⟩ = some (.slice ra n1 rc) ∧ W.cell? ⟨b, off + k * 3 + 1, none⟩ = some (.int .i64 wear) ∧ W.cell? ⟨b, off + k * 3 + 2, none⟩ = some (.bool bad)) 11 (by kernel_rfl) (by kernel_rfl) (by go_keep) 11 (by kernel_rfl) (fun hS => ?_)
      refine wpAnyH_take (i := 0) (v := ?gv1) rfl (by kernel_rfl) (by kernel_rfl) (by kernel_rfl) (fun _ _ _ h => h) (Or.inl ⟨by kernel_rfl, ?gy1⟩) (by assumption) ?gr1
      case gy1 => (intro w' hSw; (try dsimp only at hSw); go_simp; (try with_reducible rfl))
      try simp only [Act.put, List.setIfInBounds_toArray, List.set_cons_zero, List.set_cons_succ, List.getElem_toArray, List.getElem_cons_zero]
      refine wpAnyH_take (i := 1) (v := ?gv2) rfl (by kernel_rfl) (by kernel_rfl) (by kernel_rfl) (fun _ _ _ h => h) (Or.inl ⟨by kernel_rfl, ?gy2⟩) (by assumption) ?gr2
      case gy2 => (intro w' hSw; (try dsimp only at hSw); go_simp; (try with_reducible rfl))
      try simp only [Act.put, List.setIfInBounds_toArray, List.set_cons_zero, List.set_cons_succ, List.getElem_toArray, List.getElem_cons_succ, List.getElem_cons_zero]
      refine wpAnyH_take (i := 2) (v := ?gv3) rfl (by kernel_rfl) (by kernel_rfl) (by kernel_rfl) (fun _ _ _ h => h) (Or.inl ⟨by kernel_rfl, ?gy3⟩) (by assumption) ?gr3
      case gy3 => (intro w' hSw; (try dsimp only at hSw); go_simp; (try with_reducible rfl))
      try simp only [Act.put, List.setIfInBounds_toArray, List.set_cons_zero, List.set_cons_succ, List.getElem_toArray, List.getElem_cons_succ, List.getElem_cons_zero]
      refine wpAnyH_take (i := 3) (v := ?gv4) rfl (by kernel_rfl) (by kernel_rfl) (by kernel_rfl) (fun _ _ _ h => h) (Or.inl ⟨by kernel_rfl, ?gy4⟩) (by assumption) ?gr4
      case gy4 => (intro w' hSw; (try dsimp only at hSw); go_simp; (try with_reducible rfl))
      try simp only [Act.put, List.setIfInBounds_toArray, List.set_cons_zero, List.set_cons_succ, List.getElem_toArray, List.getElem_cons_succ, List.getElem_cons_zero]
      refine wpAnyH_take (i := 4) (v := ?gv5) rfl (by kernel_rfl) (by kernel_rfl) (by kernel_rfl) (fun _ _ _ h => h) (Or.inl ⟨by kernel_rfl, ?gy5⟩) (by assumption) ?gr5
      case gy5 => (intro w' hSw; (try dsimp only at hSw); go_simp; (try with_reducible rfl))
      try simp only [Act.put, List.setIfInBounds_toArray, List.set_cons_zero, List.set_cons_succ, List.getElem_toArray, List.getElem_cons_succ, List.getElem_cons_zero]
      refine wpAnyH_take (i := 5) (v := ?gv6) rfl (by kernel_rfl) (by kernel_rfl) (by kernel_rfl) (fun _ _ _ h => h) (Or.inl ⟨by kernel_rfl, ?gy6⟩) (by assumption) ?gr6
      case gy6 => (intro w' hSw; (try dsimp only at hSw); go_simp; (try with_reducible rfl))
      try simp only [Act.put, List.setIfInBounds_toArray, List.set_cons_zero, List.set_cons_succ, List.getElem_toArray, List.getElem_cons_succ, List.getElem_cons_zero]
      refine wpAnyH_take (i := 6) (v := ?gv7) rfl (by kernel_rfl) (by kernel_rfl) (by kernel_rfl) (fun _ _ _ h => h) (Or.inl ⟨by kernel_rfl, ?gy7⟩) (by assumption) ?gr7
      case gy7 => (intro w' hSw; (try dsimp only at hSw); go_simp; (try with_reducible rfl))
      try simp only [Act.put, List.setIfInBounds_toArray, List.set_cons_zero, List.set_cons_succ, List.getElem_toArray, List.getElem_cons_succ, List.getElem_cons_zero]
      refine wpAnyH_ready (rs := [7]) (by kernel_rfl) (by simp) ?_
      refine AllReadyH.cons rfl (fun K hK => ?_) AllReadyH.nil
      go_simp
      (with_reducible refine hcall.mono ?_)
      rintro e W9 ⟨a1, c1, qs, rfl, hnp, b9⟩
      have cc9 := HCC.out.keep b9
      have HX9 : Hid (W9.cell? ⟨H + 2, 0, none⟩ = some v) := (by have := cc9.x.cell 0; simp at this; exact this)
      have hrow := cc9.row
      rw [hus] at hrow
      have hql : qs.length = n1 := (by rw [hnp.len]; simp [HN1.out])
      have happ2 := fun ty => app_block W9 v us k hus (by omega) hrow ⟨a1, c1, qs, wear, bad⟩ ty n1 hql
      have HAP2 : Hid _ := happ2
      have HC9 : Hid (CC W0 W9 (H + 2) v us ((bs.take k).map BkR.D)) := cc9
      have HNP : Hid _ := And.intro hnp b9
      have HQL : Hid (qs.length = n1) := hql
      clear happ2 hrow cc9 hnp b9 hql
      clear hS
      try dsimp only
      refine Shut.out hK _ _ (⟨HX9.out, hcells.out _ HC9.out.bel⟩) (fun hS => ?_)
      try simp only [Act.put, List.setIfInBounds_toArray, List.set_cons_zero, List.set_cons_succ, List.getElem_toArray, List.getElem_cons_succ, List.getElem_cons_zero]
      refine wpAnyH_ready (rs := [8]) (by kernel_rfl) (by simp) ?_
      refine AllReadyH.cons rfl (fun K hK => ?_) AllReadyH.nil
      go_simp
      have ccB := HC9.out.keep ((Below.refl _ W9).alloc (Nat.le_refl _) (.cells #[.slice a1 n1 c1, .int .i64 wear, .bool bad] 50))
      have HXB : Hid ((W9.alloc (.cells #[.slice a1 n1 c1, .int .i64 wear, .bool bad] 50)).cell? ⟨H + 2, 0, none⟩ = some v) := (by have := ccB.x.cell 0; simp at this; exact this)
      have HBB : Hid (Below W0.heap.size W0 (W9.alloc (.cells #[.slice a1 n1 c1, .int .i64 wear, .bool bad] 50))) := ccB.bel
      have HxB : Hid (Blk (W9.alloc (.cells #[.slice a1 n1 c1, .int .i64 wear, .bool bad] 50)) (H + 2) 29 #[v]) := ccB.x
      clear ccB
      clear hS
      try dsimp only
      refine Shut.out hK _ _ (⟨HXB.out, hcells.out _ HBB.out⟩) (fun hS => ?_)
      try simp only [Act.put, List.setIfInBounds_toArray, List.set_cons_zero, List.set_cons_succ, List.getElem_toArray, List.getElem_cons_succ, List.getElem_cons_zero]
      refine wpAnyH_ready (rs := [9]) (by kernel_rfl) (by simp) ?_
      refine AllReadyH.cons rfl (fun K hK => ?_) AllReadyH.nil
      refine step_appAny (W9.alloc (.cells #[.slice a1 n1 c1, .int .i64 wear, .bool bad] 50)) rfl (.tmp 14) (.tmp 21) 27 rfl v (.slice (some ⟨W9.heap.size, 0, none⟩) 1 1) _ rfl rfl HAP2.out ?_
      intro v2 W10 hap2
      obtain ⟨a2, c2, rfl, _⟩ := OwnE.rd (rd := fun _ => True) hap2.own (fun _ _ => trivial)
      have hxg := blk_gr HxB.out hap2.gr (fun e => (HC9.out.vn (H + 2) e).2.1 rfl)
      have g0 := hxg.cell 0
      have gf := hxg.frozen 0
      simp at g0
      have HBT : Hid (Below W0.heap.size W0 W10) := HBB.out.grown hap2.gr HBB.out.size (fun g hg => (HC9.out.vn g hg).1)
      clear hS
      try dsimp only
      refine Shut.out hK _ _ (⟨g0, hcells.out _ HBT.out⟩) (fun hS => ?_)
      try simp only [Act.put, List.setIfInBounds_toArray, List.set_cons_zero, List.set_cons_succ, List.getElem_toArray, List.getElem_cons_succ, List.getElem_cons_zero]
      refine wpAnyH_take (i := 10) (v := ?gv8) rfl (by kernel_rfl) (by kernel_rfl) (by kernel_rfl) (fun _ _ _ h => h) (Or.inl ⟨by kernel_rfl, ?gy8⟩) (by assumption) ?gr8
      case gy8 => (intro w' hSw; (try dsimp only at hSw); go_simp; (try with_reducible rfl))
      try simp only [Act.put, List.setIfInBounds_toArray, List.set_cons_zero, List.set_cons_succ, List.getElem_toArray, List.getElem_cons_succ, List.getElem_cons_zero]
      refine wpAnyH_done (by kernel_rfl) ?_ _
      refine wpOp_last rfl (fun K hK => ?_)
      clear hS
      go_simp
      refine Shut.out hK _ _ (NoPanic.normal ?_)
      have ccn : CC W0 (W10.setCell ⟨H + 2, 0, none⟩ (.slice a2 (k + 1) c2)) (H + 2) (.slice a2 (k + 1) c2) (us ++ [⟨a1, c1, qs, wear, bad⟩]) ((bs.take k).map BkR.D ++ [⟨rp.map PgR.D, wear, bad⟩]) := CC.step HCC.out hus HQL.out HNP.out.2 HNP.out.1 hap2 (by simp [hus])
      rw [← hbD.out] at ccn
      have CCN : Hid _ := ccn
      have hul : (us ++ [⟨a1, c1, qs, wear, bad⟩] : List BkR).length = k + 1 := by simp [hus]
      clear ccn hap2 hxg g0 gf x0 y1 y2 y3 y4
      go_wp2
      go_roundw
      case rel => exact ⟨k + 1, _, _, by omega, by go_num, hul, CCN⟩
      case measure => simp [intOf]; omega
    · have hki : ¬ (k : Int) < (n : Int) := by omega
      obtain rfl : k = n := by omega
      have hco := hcc.out
      rw [List.take_of_length_le (by rw [hln.out]; omega)] at hco
      obtain ⟨va, vc, rfl, _⟩ := OwnE.rd (rd := fun _ => True) hco.row (fun _ _ => trivial)
      rw [hus] at hco
      have x0 := hco.x.cell 0
      have zr := Blk.keep HZ1.out hco.bel
      have r0 := zr.cell 0
      have f0 := zr.frozen 0
      have zf := zr.set 0 (.slice va k vc)
      have d0 := zf.cell 0
      simp at x0 r0 d0
      have HC : Hid _ := hco
      clear hco zr zf hcc
      go_wp2
      refine bodyPost_ret (v := .agg #[.slice va k vc]) (by simp [results, Tryd.f31, go_sem, d0]) rfl ?_
      have hc := HC.out
      have hw := HW.out
      have hH := HH.out
      have hbs := HB0.out
      have bel : Below w.heap.size w wr := by rw [hH]; exact hbs.trans (hc.bel.mono (by omega))
      exact ⟨va, k, vc, us, rfl, NewBs.wider (B := W0.heap.size) (NewBs.set_below (B := W0.heap.size) (j := H + 1) (hc.done hus) (by omega)) (by omega), hus, bel.setCell (p := ⟨H + 1, 0, none⟩) (by simp only; omega) _⟩
/-- The code of what is to be done to a block: ok tells whether the chip is right, full whether there is no more of it. -/
def mayD (ok : Bool) (ds : List BkD) (x : Int) (full : Bool) : Int :=
  if ok = false ∨ x < 0 ∨ (ds.length : Int) ≤ x then 1 else if ((ds[x.toNat]?).map BkD.bad).getD false then 2 else if full then 5 else 0
theorem mayD_form {ok : Bool} {ds : List BkD} {x : Int} {full : Bool} (h : ok = false ∨ x < 0 ∨ (ds.length : Int) ≤ x) : mayD ok ds x full = 1 := by unfold mayD; rw [if_pos h]
theorem mayD_in {bs : List BkR} {k : Nat} {r : BkR} {full : Bool} (h : bs[k]? = some r) : mayD true (bs.map BkR.D) (k : Int) full = if r.bad then 2 else if full then 5 else 0 := by
  have hl := (List.getElem?_eq_some_iff.1 h).1
  unfold mayD
  rw [if_neg (by simp; omega)]
  simp [h, BkR.D]
set_option maxRecDepth 100000 in
set_option maxHeartbeats 4000000 in
theorem mayS (a : Option Addr) (n cap : Nat) (bs : List BkR) (x : Int) (full : Bool) (w : World) (ht : CR w a n bs) :
    Calls Tryd.prog 58 #[.agg #[.slice a n cap], .int .i64 x, .bool full] w fun e w' => e = .returned (.int .i64 (mayD (chipOkB (bs.map BkR.D)) (bs.map BkR.D) x full)) ∧ Below w.heap.size w w' := by
  have B0 : Below w.heap.size w (w.alloc (.cells #[.slice a n cap] 29)) := (Below.refl _ w).alloc (Nat.le_refl _) _
  have z0 := Blk.new w 29 #[.slice a n cap]
  have hnn := ht.n
  have hcall := chipOkS a n cap bs (w.alloc (.cells #[.slice a n cap] 29)) (ht.keep B0)
  have HB : Hid _ := B0
  obtain ⟨ok, hok⟩ : ∃ ok, chipOkB (bs.map BkR.D) = ok := ⟨_, rfl⟩
  rw [hok] at hcall ⊢
  have hln : (bs.map BkR.D).length = n := by simp [ht.len]
  cases ok with
  | false =>
    rw [mayD_form (.inl rfl)]
    clear ht B0 hok hln
    go_enter Tryd.func58, Tryd.ntmps58
    go_wp2_with fail
    refine hcall.mono ?_
    rintro e w1 ⟨rfl, b1⟩
    clear hcall
    go_wp2
    go_ret
    exact ⟨rfl, HB.out.trans (b1.mono HB.out.size)⟩
  | true =>
    by_cases hx : 0 ≤ x ∧ x < (n : Int)
    · obtain ⟨k, rfl⟩ : ∃ k : Nat, x = (k : Int) := ⟨x.toNat, by omega⟩
      have hkn : k < n := by omega
      have h1 : ¬ (k : Int) < 0 := by omega
      have h2 : ¬ (n : Int) ≤ (k : Int) := by omega
      have hki : (k : Int) < (n : Int) := by omega
      obtain ⟨b, off, r, rfl, hlt, hrk, x3, _, _⟩ := (ht.keep B0).some hkn
      rw [mayD_in hrk]
      have c2 := x3.c2
      obtain ⟨bad, hbad⟩ : ∃ bad, r.bad = bad := ⟨_, rfl⟩
      rw [hbad] at c2 ⊢
      clear ht B0 hok hln hrk x3 hbad hx
      go_enter Tryd.func58, Tryd.ntmps58
      go_wp2_with fail
      refine hcall.mono ?_
      rintro e w1 ⟨rfl, b1⟩
      have t0 := (z0.keep b1).cell 0
      simp at t0
      have c2' := (b1.cell (p := ⟨b, off + k * 3 + 2, none⟩) hlt).trans c2
      have HB1 : Hid (Below w.heap.size w w1) := HB.out.trans (b1.mono HB.out.size)
      clear hcall c2 z0 b1 hlt
      cases bad
      · cases full
        · go_wp2
          go_ret
          exact ⟨rfl, HB1.out⟩
        · go_wp2
          go_ret
          exact ⟨rfl, HB1.out⟩
      · go_wp2
        go_ret
        exact ⟨rfl, HB1.out⟩
    · rw [mayD_form (by right; rw [hln]; omega)]
      clear ht B0 hok hln
      by_cases h1 : x < 0
      · go_enter Tryd.func58, Tryd.ntmps58
        go_wp2_with fail
        refine hcall.mono ?_
        rintro e w1 ⟨rfl, b1⟩
        clear hcall
        go_wp2
        go_ret
        exact ⟨rfl, HB.out.trans (b1.mono HB.out.size)⟩
      · have h2 : (n : Int) ≤ x := by omega
        go_enter Tryd.func58, Tryd.ntmps58
        go_wp2_with fail
        refine hcall.mono ?_
        rintro e w1 ⟨rfl, b1⟩
        have t0 := (z0.keep b1).cell 0
        simp at t0
        clear hcall
        go_wp2
        go_ret
        exact ⟨rfl, HB.out.trans (b1.mono HB.out.size)⟩
/-- The code of an erase. -/
def wornAt (ds : List BkD) (x : Int) : Bool := decide (0 ≤ x) && ((ds[x.toNat]?).map fun b => decide (100000 ≤ b.wear)).getD false
theorem wornAt_in {bs : List BkR} {k : Nat} {r : BkR} (h : bs[k]? = some r) : wornAt (bs.map BkR.D) (k : Int) = decide (100000 ≤ r.wear) := by simp [wornAt, h, BkR.D]
theorem wornAt_out {ds : List BkD} {x : Int} (h : ¬ (0 ≤ x ∧ x < (ds.length : Int))) : wornAt ds x = false := by
  unfold wornAt
  by_cases h1 : 0 ≤ x
  · rw [List.getElem?_eq_none (by omega)]; simp
  · simp [h1]
set_option maxRecDepth 100000 in
set_option maxHeartbeats 4000000 in
theorem l10EraseS (a : Option Addr) (n cap : Nat) (bs : List BkR) (x : Int) (w : World) (ht : CR w a n bs) :
    Calls Tryd.prog 41 #[.agg #[.slice a n cap], .int .i64 x] w fun e w' => e = .returned (.int .i64 (mayD (chipOkB (bs.map BkR.D)) (bs.map BkR.D) x (wornAt (bs.map BkR.D) x))) ∧ Below w.heap.size w w' := by
  have B0 : Below w.heap.size w (w.alloc (.cells #[.slice a n cap] 29)) := (Below.refl _ w).alloc (Nat.le_refl _) _
  have hnn := ht.n
  have hcall := fun full => mayS a n cap bs x full (w.alloc (.cells #[.slice a n cap] 29)) (ht.keep B0)
  have HB : Hid _ := B0
  generalize chipOkB (bs.map BkR.D) = ok at hcall
  by_cases hx : 0 ≤ x ∧ x < (n : Int)
  · obtain ⟨k, rfl⟩ : ∃ k : Nat, x = (k : Int) := ⟨x.toNat, by omega⟩
    have hkn : k < n := by omega
    have hki : (k : Int) < (n : Int) := by omega
    have hk0 : (0 : Int) ≤ (k : Int) := by omega
    obtain ⟨b, off, r, rfl, hlt, hrk, x3, _, _⟩ := (ht.keep B0).some hkn
    rw [wornAt_in hrk]
    have c1 := x3.c1
    obtain ⟨wear, hwe⟩ : ∃ wear, r.wear = wear := ⟨_, rfl⟩
    rw [hwe] at c1 ⊢
    by_cases hf : 100000 ≤ wear
    · have hd : decide (100000 ≤ wear) = true := by simp [hf]
      rw [hd]
      have hc := hcall true
      clear hcall ht B0 hrk x3 hwe hx hd
      go_enter Tryd.func41, Tryd.ntmps41
      go_wp2_with fail
      refine hc.mono ?_
      rintro e w1 ⟨rfl, b1⟩
      clear hc
      go_wp2
      go_ret
      exact ⟨rfl, HB.out.trans (b1.mono HB.out.size)⟩
    · have hd : decide (100000 ≤ wear) = false := by simp; omega
      rw [hd]
      have hc := hcall false
      clear hcall ht B0 hrk x3 hwe hx hd
      go_enter Tryd.func41, Tryd.ntmps41
      go_wp2_with fail
      refine hc.mono ?_
      rintro e w1 ⟨rfl, b1⟩
      clear hc
      go_wp2
      go_ret
      exact ⟨rfl, HB.out.trans (b1.mono HB.out.size)⟩
  · rw [wornAt_out (by simpa [ht.len] using hx)]
    have hc := hcall false
    clear hcall ht B0
    by_cases h1 : 0 ≤ x
    · have h2 : ¬ x < (n : Int) := by omega
      go_enter Tryd.func41, Tryd.ntmps41
      go_wp2_with fail
      refine hc.mono ?_
      rintro e w1 ⟨rfl, b1⟩
      clear hc
      go_wp2
      go_ret
      exact ⟨rfl, HB.out.trans (b1.mono HB.out.size)⟩
    · go_enter Tryd.func41, Tryd.ntmps41
      go_wp2_with fail
      refine hc.mono ?_
      rintro e w1 ⟨rfl, b1⟩
      clear hc
      go_wp2
      go_ret
      exact ⟨rfl, HB.out.trans (b1.mono HB.out.size)⟩
end

section
open Go.RowKit
/-- A page, a block, marked from k on. -/
def mkPg (k : Nat) (p : PgR) : PgR := ⟨decide (k % 3 = 0), p.a, p.cap, marksG (k + 1) p.zs.length⟩
def mkPs : Nat → List PgR → List PgR
  | _, [] => []
  | k, p :: ps => mkPg k p :: mkPs (k + (1 + p.zs.length)) ps
theorem mkPg_v (k : Nat) (p : PgR) : (mkPg k p).v = p.v := by simp [mkPg, PgR.v, marksG]
theorem mkPs_append (k : Nat) (xs ys : List PgR) : mkPs k (xs ++ ys) = mkPs k xs ++ mkPs (k + totP (xs.map PgR.D)) ys := by
  induction xs generalizing k with
  | nil => simp [mkPs, totP]
  | cons x xs ih =>
    simp only [List.cons_append, mkPs, List.map_cons]
    rw [ih, totP_cons, show k + (1 + x.zs.length) + totP (xs.map PgR.D) = k + (1 + x.D.zs.length + totP (xs.map PgR.D)) by simp only [PgR.D]; omega]
theorem mkPs_length (k : Nat) (ps : List PgR) : (mkPs k ps).length = ps.length := by
  induction ps generalizing k with
  | nil => rfl
  | cons p ps ih => simp [mkPs, ih]
theorem mkPs_take {k i : Nat} {ps : List PgR} {p : PgR} (h : ps[i]? = some p) : mkPs k (ps.take (i + 1)) = mkPs k (ps.take i) ++ [mkPg (k + totP ((ps.take i).map PgR.D)) p] := by
  rw [List.take_add_one, h, mkPs_append]
  rfl
theorem totP_take {i : Nat} {ps : List PgR} {p : PgR} (h : ps[i]? = some p) : totP ((ps.take (i + 1)).map PgR.D) = totP ((ps.take i).map PgR.D) + (1 + p.zs.length) := by
  rw [List.take_add_one, h]
  simp [totP, PgR.D]
theorem totP_take_le (i : Nat) (ps : List PgR) : totP ((ps.take i).map PgR.D) ≤ totP (ps.map PgR.D) := by
  have : totP (ps.map PgR.D) = totP ((ps.take i).map PgR.D) + totP ((ps.drop i).map PgR.D) := by rw [← totP_append, ← List.map_append, List.take_append_drop]
  omega
theorem fp_mkPs (k : Nat) (ps : List PgR) : (mkPs k ps).flatMap (fun p => p.v.ownBlock.toList) = ps.flatMap fun p => p.v.ownBlock.toList := by
  induction ps generalizing k with
  | nil => rfl
  | cons p ps ih => simp only [mkPs, List.flatMap_cons, ih, mkPg_v]
/-- The pages behind i rounds. -/
def rowP (k : Nat) (ps : List PgR) (i : Nat) : List PgR := mkPs k (ps.take i) ++ ps.drop i
theorem fp_rowP (v : Value) (k : Nat) (ps : List PgR) (i : Nat) : fpPs v (rowP k ps i) = fpPs v ps := by
  unfold fpPs rowP
  rw [List.flatMap_append, fp_mkPs, ← List.flatMap_append, List.take_append_drop]
theorem rowP_all (k : Nat) (ps : List PgR) (n : Nat) (h : ps.length = n) : rowP k ps n = mkPs k ps := by subst h; simp [rowP]
theorem rowP_len (k : Nat) (ps : List PgR) (i : Nat) : (rowP k ps i).length = ps.length := by
  unfold rowP
  rw [List.length_append, mkPs_length, ← List.length_append, List.take_append_drop]
theorem rowP_at {k i : Nat} {ps : List PgR} {p : PgR} (h : ps[i]? = some p) : (rowP k ps i)[i]? = some p := by
  have hl := (List.getElem?_eq_some_iff.1 h).1
  unfold rowP
  rw [List.getElem?_append_right (by rw [mkPs_length, List.length_take]; omega), mkPs_length, List.length_take, List.getElem?_drop, show i + (i - min i ps.length) = i by omega, h]
theorem rowP_set {k i : Nat} {ps : List PgR} {p : PgR} (h : ps[i]? = some p) : (rowP k ps i).set i (mkPg (k + totP ((ps.take i).map PgR.D)) p) = rowP k ps (i + 1) := by
  obtain ⟨hl, he⟩ := List.getElem?_eq_some_iff.1 h
  unfold rowP
  rw [List.set_append_right _ _ (by rw [mkPs_length, List.length_take]; omega), mkPs_length, List.length_take, show i - min i ps.length = 0 by omega, List.drop_eq_getElem_cons hl, List.set_cons_zero, mkPs_take h, List.append_assoc]
  rfl
theorem mem_set {α : Type} {l : List α} {i : Nat} {x y : α} (h : y ∈ l.set i x) : y = x ∨ ∃ j, j ≠ i ∧ l[j]? = some y := by
  obtain ⟨j, hj⟩ := List.mem_iff_getElem?.1 h
  by_cases e : j = i
  · subst e
    left
    rw [List.getElem?_set_self (by have := (List.getElem?_eq_some_iff.1 hj).1; simpa using this)] at hj
    simpa using hj.symm
  · right
    rw [List.getElem?_set_ne (fun h => e h.symm)] at hj
    exact ⟨j, e, hj⟩
/-- Of a list without doubles what one element takes is not taken by another one. -/
theorem flat_apart {α : Type} {f : α → List Nat} {l : List α} (hd : (l.flatMap f).Nodup) {i j : Nat} {x y : α} (hi : l[i]? = some x) (hj : l[j]? = some y) (hne : i ≠ j) {g : Nat} (hx : g ∈ f x) : g ∉ f y := by
  induction l generalizing i j with
  | nil => simp at hi
  | cons z l ih =>
    rw [List.flatMap_cons, List.nodup_append] at hd
    cases i with
    | zero =>
      cases j with
      | zero => omega
      | succ j =>
        simp at hi hj
        subst hi
        intro hy
        exact hd.2.2 g hx g (List.mem_flatMap.2 ⟨y, List.mem_of_getElem? hj, hy⟩) rfl
    | succ i =>
      cases j with
      | zero =>
        simp at hi hj
        subst hj
        intro hy
        exact hd.2.2 g hy g (List.mem_flatMap.2 ⟨x, List.mem_of_getElem? hi, hx⟩) rfl
      | succ j => exact ih hd.2.1 (by simpa using hi) (by simpa using hj) (by omega)
/-- One page marked: the row's cell first, then the bytes. -/
theorem markP_step {wr w1 : World} {g c n i k0 : Nat} {ps : List PgR} {p : PgR} (hn : ps.length = n) (hp : ps[i]? = some p) (hnd : (fpPs (.slice (some ⟨g, 0, none⟩) n c) ps).Nodup)
    (hO : OwnPs wr (.slice (some ⟨g, 0, none⟩) n c) (rowP k0 ps i)) (u : Bool) (hu : u = decide ((k0 + totP ((ps.take i).map PgR.D)) % 3 = 0))
    (hR : RowB w1 p.v p.zs.length (marksG (k0 + totP ((ps.take i).map PgR.D) + 1) p.zs.length)) (hgr : (wr.setCell ⟨g, i * 2, none⟩ (.bool u)).grownBy w1 p.v.ownBlock) :
    OwnPs w1 (.slice (some ⟨g, 0, none⟩) n c) (rowP k0 ps (i + 1)) ∧ Sv (fpPs (.slice (some ⟨g, 0, none⟩) n c) ps) wr w1 := by
  have hfp := fp_rowP (.slice (some ⟨g, 0, none⟩) n c) k0 ps i
  have hat := rowP_at (k := k0) hp
  have hin : g ∉ (ps.flatMap fun q => q.v.ownBlock.toList) := by
    unfold fpPs at hnd
    rw [List.nodup_append] at hnd
    intro h
    exact hnd.2.2 g (by simp [Value.ownBlock]) g h rfl
  have hin' : ∀ q ∈ rowP k0 ps i, g ∉ q.v.ownBlock.toList := fun q hq h => by
    have h2 : g ∈ (rowP k0 ps i).flatMap fun q => q.v.ownBlock.toList := List.mem_flatMap.2 ⟨q, hq, h⟩
    unfold rowP at h2
    rw [List.flatMap_append, fp_mkPs, ← List.flatMap_append, List.take_append_drop] at h2
    exact hin h2
  have hlr := rowP_len k0 ps i
  have hown : OwnE pgE 56 wr (.slice (some ⟨g, 0, none⟩) n c) n (rowP k0 ps i) := by have := hO.1; rw [hlr, hn] at this; exact this
  have hglt := hown.lt (g := g) rfl
  have hpo := hO.2 p (List.mem_of_getElem? hat)
  have hpm : p ∈ ps := List.mem_of_getElem? hp
  have hgp : p.v.ownBlock ≠ some g := fun e => hin' p (List.mem_of_getElem? hat) (by simp [e])
  have s1 := hown.set i 0 p ⟨u, p.a, p.cap, p.zs⟩ (.bool u) hat (by decide) rfl
  have s2 : OwnE pgE 56 w1 (.slice (some ⟨g, 0, none⟩) n c) n ((rowP k0 ps i).set i ⟨u, p.a, p.cap, p.zs⟩) := s1.block fun j hj => by
    simp [Value.ownBlock] at hj
    subst hj
    exact hgr.block g (by rw [size_setC]; exact hglt) (fun e => hgp e.symm)
  have s3 : OwnE pgE 56 w1 (.slice (some ⟨g, 0, none⟩) n c) n (rowP k0 ps (i + 1)) := by
    have hx : pgE.xv ((rowP k0 ps i).set i ⟨u, p.a, p.cap, p.zs⟩) = pgE.xv (rowP k0 ps (i + 1)) := by
      rw [← rowP_set hp]
      have e : pgE.en (mkPg (k0 + totP ((ps.take i).map PgR.D)) p) = pgE.en ⟨u, p.a, p.cap, p.zs⟩ := by simp [pgE, mkPg, marksG, hu]
      have hx1 := pgE.xv_set (rowP k0 ps i) i 0 p ⟨u, p.a, p.cap, p.zs⟩ (.bool u) hat (by decide) rfl
      have hx2 := pgE.xv_set (rowP k0 ps i) i 0 p (mkPg (k0 + totP ((ps.take i).map PgR.D)) p) (.bool u) hat (by decide) (by rw [e]; rfl)
      rw [← hx1, ← hx2]
    have := s2
    unfold OwnE at this ⊢
    rw [hx] at this
    exact this
  have hsv : Sv (fpPs (.slice (some ⟨g, 0, none⟩) n c) ps) wr w1 := by
    refine Sv.trans (b := wr.setCell ⟨g, i * 2, none⟩ (.bool u)) (Sv.gr (gr_setC wr g (i * 2) _) fun j hj => ?_) (Sv.gr hgr fun j hj => ?_)
    · simp at hj; subst hj; exact fpPs_row rfl
    · exact fpPs_pg hpm hj
  refine ⟨⟨by rw [rowP_len, hn]; exact s3, fun q hq => ?_⟩, hsv⟩
  rw [← rowP_set hp] at hq
  rcases mem_set hq with rfl | ⟨j, hj, hqj⟩
  · show RowB w1 (mkPg _ p).v (mkPg _ p).zs.length (mkPg _ p).zs
    rw [mkPg_v]
    have : (mkPg (k0 + totP ((ps.take i).map PgR.D)) p).zs.length = p.zs.length := by simp [mkPg, marksG]
    rw [this]
    exact hR
  · have hnd' : ((rowP k0 ps i).flatMap fun q => q.v.ownBlock.toList).Nodup := by
      rw [← hfp] at hnd
      unfold fpPs at hnd
      exact (List.nodup_append.1 hnd).2.1
    refine (hO.2 q (List.mem_of_getElem? hqj)).block fun b hb => ?_
    have hbl := (hO.2 q (List.mem_of_getElem? hqj)).lt hb
    rw [hgr.block b (by rw [size_setC]; exact hbl) (fun e => flat_apart (g := b) hnd' hat hqj (fun h => hj h.symm) (by rw [← e]; simp) (by rw [hb]; simp))]
    refine Below.heap_setCell _ _ _ _ ?_
    show b ≠ g
    intro e
    subst e
    exact hin' q (List.mem_of_getElem? hqj) (by simp [hb])
theorem rem3b (m : Nat) : ((m : Int) % 3 == 0) = decide (m % 3 = 0) := by
  by_cases h : m % 3 = 0
  · have h2 : (m : Int) % 3 = 0 := by omega
    rw [h2, h]
    rfl
  · have h2 : (m : Int) % 3 ≠ 0 := by omega
    simp [h]
    omega
set_option maxRecDepth 100000 in
set_option maxHeartbeats 4000000 in
theorem markPs_any (v : Value) (n k0 : Nat) (ps : List PgR) (w : World) (hn : ps.length = n) (h1 : 1 ≤ k0) (hs : k0 + totP (ps.map PgR.D) ≤ 9999990) (hO : OwnPs w v ps) (hnd : (fpPs v ps).Nodup) :
    Calls Tryd.prog 67 #[v, .int .i64 k0] w fun e w' => e = .returned (.int .i64 ((k0 + totP (ps.map PgR.D) : Nat) : Int)) ∧ OwnPs w' v (mkPs k0 ps) ∧ Sv (fpPs v ps) w w' := by
  have hl := totP_len (ps.map PgR.D)
  simp only [List.length_map] at hl
  have hnb : n ≤ 9999990 := by omega
  have hO1 := hO.1
  rw [hn] at hO1
  rcases hO1.cases with ⟨rfl, rfl, rfl⟩ | ⟨g, c, rfl, hglt⟩
  · go_enter Tryd.func67, Tryd.ntmps67
    go_wp2
    refine wp_loop_rounds 1 ?_; rw [rounds_succ]
    go_wp2
    go_ret
    exact ⟨by simp [totP], hO, Sv.refl _ _⟩
  · have HO : Hid (OwnPs w (.slice (some ⟨g, 0, none⟩) n c) (rowP k0 ps 0)) := hO
    have HN : Hid (ps.length = n) := hn
    have HND : Hid ((fpPs (.slice (some ⟨g, 0, none⟩) n c) ps).Nodup) := hnd
    clear hO hO1 hnd hn
    go_enter Tryd.func67, Tryd.ntmps67
    go_wp2
    go_loopw [1, 5] (fun q i wr => ∃ (k m : Nat), k ≤ n ∧ i = .int .i64 k ∧ q = .int .i64 (m : Int) ∧ Hid (m = k0 + totP ((ps.take k).map PgR.D)) ∧ Hid (OwnPs wr (.slice (some ⟨g, 0, none⟩) n c) (rowP k0 ps k)) ∧ Hid (Sv (fpPs (.slice (some ⟨g, 0, none⟩) n c) ps) w wr)) (fun _ i _ => n - (intOf i).toNat)
    case atStart => exact ⟨0, k0, Nat.zero_le _, rfl, rfl, by show _ = _; simp [totP], HO, Sv.refl _ _⟩
    case round =>
      obtain ⟨k, m, hk, rfl, rfl, hm, hOw, hSv⟩ := hrel
      by_cases hkn : k < n
      · have hki : (k : Int) < (n : Int) := by omega
        obtain ⟨p, hpk⟩ : ∃ p, ps[k]? = some p := ⟨_, List.getElem?_eq_getElem (by rw [HN.out]; exact hkn)⟩
        have hat := rowP_at (k := k0) hpk
        have hlr := rowP_len k0 ps k
        have hown : OwnE pgE 56 wr (.slice (some ⟨g, 0, none⟩) n c) n (rowP k0 ps k) := by have := hOw.out.1; rw [hlr, HN.out] at this; exact this
        have q0 : wr.cell? ⟨g, k * 2, none⟩ = some (.bool p.used) := hown.cell k 0 p hat (by decide)
        have q1 : wr.cell? ⟨g, k * 2 + 1, none⟩ = some (.slice p.a p.zs.length p.cap) := hown.cell k 1 p hat (by decide)
        have f0 := hown.frozen (k * 2)
        have htl := totP_take_le (k + 1) ps
        have htk := totP_take hpk
        have hmo := hm.out
        have hpo := hOw.out.2 p (List.mem_of_getElem? hat)
        obtain ⟨U, hU⟩ : ∃ U, decide (m % 3 = 0) = U := ⟨_, rfl⟩
        have hne : p.v.ownBlock ≠ some g := fun e => by
          have h3 := HND.out
          unfold fpPs at h3
          rw [List.nodup_append] at h3
          exact h3.2.2 g (by simp [Value.ownBlock]) g (List.mem_flatMap.2 ⟨p, List.mem_of_getElem? hpk, by simp [e]⟩) rfl
        have hpo1 : RowB (wr.setCell ⟨g, k * 2, none⟩ (.bool U)) p.v p.zs.length p.zs := RowB.block hpo fun b hb => Below.heap_setCell _ _ _ _ (by show b ≠ g; intro e; subst e; exact hne hb)
        have hcall := markBG p.v p.zs.length (m + 1) p.zs (wr.setCell ⟨g, k * 2, none⟩ (.bool U)) (by omega) (by omega) hpo1
        have hg1 := (Below.cell (B := wr.heap.size) (w := wr) (w' := wr) (p := ⟨g, k * 2 + 1, none⟩) (Below.refl _ _) (hown.lt (g := g) rfl))
        have q1' : (wr.setCell ⟨g, k * 2, none⟩ (.bool U)).cell? ⟨g, k * 2 + 1, none⟩ = some (.slice p.a p.zs.length p.cap) := by
          have s1 := hown.set k 0 p ⟨U, p.a, p.cap, p.zs⟩ (.bool U) hat (by decide) rfl
          exact s1.cell k 1 ⟨U, p.a, p.cap, p.zs⟩ (by rw [List.getElem?_set_self (by rw [hlr]; exact (List.getElem?_eq_some_iff.1 hpk).1)]) (by decide)
        have hUi : ((m : Int) % 3 == 0) = U := by rw [← hU]; exact rem3b m
        have hstep : Hid (∀ w1, RowB w1 p.v p.zs.length (marksG (m + 1) p.zs.length) → (wr.setCell ⟨g, k * 2, none⟩ (.bool U)).grownBy w1 p.v.ownBlock → OwnPs w1 (.slice (some ⟨g, 0, none⟩) n c) (rowP k0 ps (k + 1)) ∧ Sv (fpPs (.slice (some ⟨g, 0, none⟩) n c) ps) wr w1) := fun w1 h3 h4 =>
          markP_step HN.out hpk HND.out hOw.out U (by rw [← hU, hmo]) (by rw [← hmo]; exact h3) h4
        have HT : Hid (m + (1 + p.zs.length) = k0 + totP ((ps.take (k + 1)).map PgR.D)) := by show _ = _; omega
        have hmb : m + 1 + p.zs.length ≤ 9999990 := by omega
        have hv : p.v = .slice p.a p.zs.length p.cap := rfl
        rw [hv] at hcall
        obtain ⟨n1, hn1⟩ : ∃ n1, p.zs.length = n1 := ⟨_, rfl⟩
        rw [hn1] at q1 q1' hcall hmb HT hstep
        have HV : Hid (p.v = .slice p.a n1 p.cap) := by show _ = _; rw [hv, hn1]
        clear hmo htk htl hpo hpo1 hg1 hown hlr hat hpk hn1 hv hne hU
        go_wp2_with fail
        rw [show (m : Int) + 1 = ((m + 1 : Nat) : Int) by omega]
        refine hcall.mono ?_
        rintro e w1 ⟨rfl, hRB, hgr⟩
        clear hcall q0 q1 q1' f0 hUi
        have hst := hstep.out w1 (by rw [HV.out]; exact hRB) (by rw [HV.out]; exact hgr)
        have HA : Hid _ := hst.1
        have HB : Hid (Sv (fpPs (.slice (some ⟨g, 0, none⟩) n c) ps) w w1) := hSv.out.trans hst.2
        clear hst hRB hgr hstep
        go_wp2
        go_roundw
        case rel => exact ⟨k + 1, m + 1 + n1, by omega, by go_num, by go_num, by show _ = _; rw [← HT.out]; omega, HA, HB⟩
        case measure => simp [intOf]; omega
      · have hki : ¬ (k : Int) < (n : Int) := by omega
        obtain rfl : k = n := by omega
        go_wp2
        go_ret
        have := hOw.out
        rw [rowP_all k0 ps k HN.out] at this
        have hmm := hm.out
        rw [List.take_of_length_le (by rw [HN.out]; omega)] at hmm
        exact ⟨by show Ending.returned (.int .i64 (m : Int)) = _; exact ret_int (by omega), this, hSv.out⟩
set_option maxRecDepth 100000 in
set_option maxHeartbeats 4000000 in
theorem heldPs_any (v : Value) (n k0 : Nat) (ps : List PgR) (w : World) (hn : ps.length = n) (h1 : 1 ≤ k0) (hs : k0 + totP (ps.map PgR.D) ≤ 9999990) (hO : OwnPs w v (mkPs k0 ps)) :
    Calls Tryd.prog 68 #[v, .int .i64 k0] w fun e w' => e = .returned (.int .i64 ((k0 + totP (ps.map PgR.D) : Nat) : Int)) ∧ w' = w := by
  have hl := totP_len (ps.map PgR.D)
  simp only [List.length_map] at hl
  have hnb : n ≤ 9999990 := by omega
  have hO1 := hO.1
  rw [mkPs_length, hn] at hO1
  rcases hO1.cases with ⟨rfl, rfl, _⟩ | ⟨g, c, rfl, hglt⟩
  · obtain rfl : ps = [] := List.length_eq_zero_iff.1 hn
    go_enter Tryd.func68, Tryd.ntmps68
    go_wp2
    refine wp_loop_rounds 1 ?_; rw [rounds_succ]
    go_wp2
    go_ret
    exact ⟨by simp [totP], rfl⟩
  · have HO : Hid (OwnE pgE 56 w (.slice (some ⟨g, 0, none⟩) n c) n (mkPs k0 ps) ∧ ∀ p ∈ mkPs k0 ps, p.own w) := ⟨hO1, hO.2⟩
    have HN : Hid (ps.length = n) := hn
    clear hO hO1 hn
    go_enter Tryd.func68, Tryd.ntmps68
    go_wp2
    go_loopw [1, 5] (fun q i wr => ∃ (k m : Nat), k ≤ n ∧ i = .int .i64 k ∧ q = .int .i64 (m : Int) ∧ Hid (m = k0 + totP ((ps.take k).map PgR.D)) ∧ w = wr) (fun _ i _ => n - (intOf i).toNat)
    case atStart => exact ⟨0, k0, Nat.zero_le _, rfl, rfl, by show _ = _; simp [totP], rfl⟩
    case round =>
      obtain ⟨k, m, hk, rfl, rfl, hm, rfl⟩ := hrel
      by_cases hkn : k < n
      · have hki : (k : Int) < (n : Int) := by omega
        obtain ⟨p, hpk⟩ : ∃ p, ps[k]? = some p := ⟨_, List.getElem?_eq_getElem (by rw [HN.out]; exact hkn)⟩
        have hmo := hm.out
        have hat : (mkPs k0 ps)[k]? = some (mkPg m p) := by
          have h2 := rowP_set (k := k0) hpk
          have h3 : ps = ps.take (k + 1) ++ ps.drop (k + 1) := (List.take_append_drop _ _).symm
          rw [h3, mkPs_append, mkPs_take hpk, List.getElem?_append_left (by simp [mkPs_length]; have := (List.getElem?_eq_some_iff.1 hpk).1; omega), List.getElem?_append_right (by simp [mkPs_length]; omega), mkPs_length, List.length_take, show k - min k ps.length = 0 by have := (List.getElem?_eq_some_iff.1 hpk).1; omega, hmo]
          rfl
        have q0 : w.cell? ⟨g, k * 2, none⟩ = some (.bool (decide (m % 3 = 0))) := HO.out.1.cell k 0 _ hat (by decide)
        have q1 : w.cell? ⟨g, k * 2 + 1, none⟩ = some (.slice p.a p.zs.length p.cap) := by
          have := HO.out.1.cell k 1 _ hat (by decide)
          exact this.trans (by simp [pgE, mkPg, marksG])
        have htl := totP_take_le (k + 1) ps
        have htk := totP_take hpk
        have hpo := HO.out.2 _ (List.mem_of_getElem? hat)
        unfold PgR.own at hpo
        rw [mkPg_v] at hpo
        have hpo1 : RowB w p.v p.zs.length (marksG (m + 1) p.zs.length) := by
          have e : (mkPg m p).zs.length = p.zs.length := by simp [mkPg, marksG]
          rw [e] at hpo
          exact hpo
        have hcall := heldBG p.v p.zs.length (m + 1) w (by omega) (by omega) hpo1
        obtain ⟨U, hU⟩ : ∃ U, decide (m % 3 = 0) = U := ⟨_, rfl⟩
        have hUi : ((m : Int) % 3 == 0) = U := by rw [← hU]; exact rem3b m
        have hUU : (U != U) = false := by simp
        rw [hU] at q0
        have HT : Hid (m + (1 + p.zs.length) = k0 + totP ((ps.take (k + 1)).map PgR.D)) := by show _ = _; omega
        have hmb : m + 1 + p.zs.length ≤ 9999990 := by omega
        have hv : p.v = .slice p.a p.zs.length p.cap := rfl
        rw [hv] at hcall
        obtain ⟨n1, hn1⟩ : ∃ n1, p.zs.length = n1 := ⟨_, rfl⟩
        rw [hn1] at q1 hcall hmb HT
        have hneg : ¬ ((m + 1 + n1 : Nat) : Int) < 0 := by omega
        clear hmo htk htl hpo hpo1 hat hpk hn1 hv hU
        go_wp2_with fail
        rw [show (m : Int) + 1 = ((m + 1 : Nat) : Int) by omega]
        refine hcall.mono ?_
        rintro e w1 ⟨rfl, hw⟩
        obtain rfl := hw.symm
        clear hcall q0 q1 hUi hUU
        obtain ⟨M, hM⟩ : ∃ M, m + 1 + n1 = M := ⟨_, rfl⟩
        rw [hM] at hneg hmb ⊢
        have HM : Hid _ := hM
        clear hM
        go_wp2
        go_roundw
        case rel => exact ⟨k + 1, M, by omega, by go_num, by go_num, by show _ = _; rw [← HT.out, ← HM.out]; omega, trivial⟩
        case measure => simp [intOf]; omega
      · have hki : ¬ (k : Int) < (n : Int) := by omega
        obtain rfl : k = n := by omega
        go_wp2
        go_ret
        have hmm := hm.out
        rw [List.take_of_length_le (by rw [HN.out]; omega)] at hmm
        exact ⟨by show Ending.returned (.int .i64 (m : Int)) = _; exact ret_int (by omega), rfl⟩
end
end Go.Proofs.YtghfopafmjkpdaaDoor
