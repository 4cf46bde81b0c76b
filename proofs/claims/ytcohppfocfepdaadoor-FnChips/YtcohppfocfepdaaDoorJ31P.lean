/-
  Joined: DrSm, DrEw.
-/
import Derived.Test.YtcohppfocfepdaaDoorJ30P
namespace Go.Proofs.YtcohppfocfepdaaDoor
section
open Go.RowKit
theorem bk_same {ts ts' : List BkR} {k : Nat} {r r' : BkR} (h : ts.map BkR.D = ts'.map BkR.D) (hr : ts[k]? = some r) (hr' : ts'[k]? = some r') : r.ps.map PgR.D = r'.ps.map PgR.D ∧ r.wear = r'.wear ∧ r.bad = r'.bad := by
  have h1 : (ts.map BkR.D)[k]? = some r.D := by rw [List.getElem?_map, hr]; rfl
  rw [h, List.getElem?_map, hr'] at h1
  simp only [Option.map_some, Option.some.injEq, BkR.D, BkD.mk.injEq] at h1
  exact ⟨h1.1.symm, h1.2.1.symm, h1.2.2.symm⟩
theorem pg_same {ps ps' : List PgR} {k : Nat} {p p' : PgR} (h : ps.map PgR.D = ps'.map PgR.D) (hr : ps[k]? = some p) (hr' : ps'[k]? = some p') : p.used = p'.used ∧ p.zs = p'.zs := by
  have h1 : (ps.map PgR.D)[k]? = some p.D := by rw [List.getElem?_map, hr]; rfl
  rw [h, List.getElem?_map, hr'] at h1
  simp only [Option.map_some, Option.some.injEq, PgR.D, PgD.mk.injEq] at h1
  exact ⟨h1.1.symm, h1.2.symm⟩
theorem totP_len' (ps : List PgD) : ps.length ≤ totP ps := by
  induction ps with
  | nil => simp [totP]
  | cons d ds ih => rw [totP_cons, List.length_cons]; omega
set_option maxRecDepth 100000 in
set_option maxHeartbeats 8000000 in
theorem sameChip_same (a a' : Option Addr) (n c c' : Nat) (ts ts' : List BkR) (w : World) (h : CR w a n ts) (h' : CR w a' n ts') (he : ts.map BkR.D = ts'.map BkR.D) :
    Calls Tryd.prog 9 #[.agg #[.slice a n c], .agg #[.slice a' n c']] w fun e w' => e = .returned (.bool true) ∧ Below w.heap.size w w' := by
  have hnn := h.n
  have B0 : Below w.heap.size w ((w.alloc (.cells #[.slice a n c] 26)).alloc (.cells #[.slice a' n c'] 26)) := ((Below.refl _ w).alloc (Nat.le_refl _) _).alloc (by simp) _
  have z0 := (Blk.new w 26 #[.slice a n c]).alloc (.cells #[.slice a' n c'] 26)
  have z1 := Blk.new (w.alloc (.cells #[.slice a n c] 26)) 26 #[.slice a' n c']
  simp only [World.size_alloc] at z1
  obtain ⟨H, hH⟩ : ∃ H, w.heap.size = H := ⟨_, rfl⟩
  rw [hH] at z0 z1
  obtain ⟨W0, hW0⟩ : ∃ W, (w.alloc (.cells #[.slice a n c] 26)).alloc (.cells #[.slice a' n c'] 26) = W := ⟨_, rfl⟩
  rw [hW0] at B0 z0 z1
  have HB0 : Hid (Below w.heap.size w W0) := B0
  have HZ0 : Hid (Blk W0 H 26 #[.slice a n c]) := z0
  have HZ1 : Hid (Blk W0 (H + 1) 26 #[.slice a' n c']) := z1
  have HC : Hid (CR W0 a n ts) := h.keep B0
  have HC' : Hid (CR W0 a' n ts') := h'.keep B0
  have HE : Hid (ts.map BkR.D = ts'.map BkR.D) := he
  have hnf : ((n : Int) != (n : Int)) = false := by simp
  have q0 := z0.cell 0
  have q1 := z1.cell 0
  simp at q0 q1
  clear h h' he B0 z0 z1
  go_enter Tryd.func9, Tryd.ntmps9
  go_wp2_with fail
  try rw [hH]
  try rw [hW0]
  clear hW0
  go_wp2
  go_loopw [5] (fun i wr => ∃ k : Nat, k ≤ n ∧ i = .int .i64 k ∧ Hid (Below W0.heap.size W0 wr)) (fun i _ => n - (intOf i).toNat)
  case atStart => exact ⟨0, Nat.zero_le _, rfl, Below.refl _ _⟩
  case round =>
    obtain ⟨k, hk, rfl, hB⟩ := hrel
    clear q0 q1
    have q0 := (HZ0.out.keep hB.out).cell 0
    have q1 := (HZ1.out.keep hB.out).cell 0
    simp at q0 q1
    by_cases hkn : k < n
    · have hki : (k : Int) < (n : Int) := by omega
      obtain ⟨b, off, r, rfl, hlt, hrk, ⟨x0, x1, x2⟩, hrp, htp⟩ := (HC.out.keep hB.out).some hkn
      obtain ⟨b', off', r', rfl, hlt', hrk', ⟨y0, y1, y2⟩, hrp', htp'⟩ := (HC'.out.keep hB.out).some hkn
      obtain ⟨e1, e2, e3⟩ := bk_same HE.out hrk hrk'
      obtain ⟨ra, rc, ps, wear, bad⟩ := r
      obtain ⟨ra', rc', ps', wear', bad'⟩ := r'
      dsimp only at x0 x1 x2 y0 y1 y2 hrp hrp' htp htp' e1 e2 e3
      subst e2 e3
      have hml : ps'.length = ps.length := by have := congrArg List.length e1; simp at this; omega
      rw [hml] at y0
      have hmt : ps.length ≤ 1048576 := by have := totP_len' (ps.map PgR.D); simp at this; omega
      obtain ⟨m, hm⟩ : ∃ m, ps.length = m := ⟨_, rfl⟩
      rw [hm] at x0 y0 hmt
      have HM : Hid (ps.length = m) := hm
      have HM' : Hid (ps'.length = m) := hml.trans hm
      have HPS : Hid (ps.map PgR.D = ps'.map PgR.D) := e1
      have HTP : Hid (totP (ps.map PgR.D) ≤ 1048576) := htp
      have hsz := hB.out.size
      have bA : Below wr.heap.size wr ((wr.alloc (.cells #[.slice ra m rc, .int .i64 wear, .bool bad] 34)).alloc (.cells #[.slice ra' m rc', .int .i64 wear, .bool bad] 34)) := ((Below.refl _ wr).alloc (Nat.le_refl _) _).alloc (by simp) _
      have u0 := (Blk.new wr 34 #[.slice ra m rc, .int .i64 wear, .bool bad]).alloc (.cells #[.slice ra' m rc', .int .i64 wear, .bool bad] 34)
      have u1 := Blk.new (wr.alloc (.cells #[.slice ra m rc, .int .i64 wear, .bool bad] 34)) 34 #[.slice ra' m rc', .int .i64 wear, .bool bad]
      simp only [World.size_alloc] at u1
      have y0' : (wr.alloc (.cells #[.slice ra m rc, .int .i64 wear, .bool bad] 34)).cell? ⟨b', off' + k * 3, none⟩ = _ := Lib.cell?_alloc_some _ y0
      have y1' : (wr.alloc (.cells #[.slice ra m rc, .int .i64 wear, .bool bad] 34)).cell? ⟨b', off' + k * 3 + 1, none⟩ = _ := Lib.cell?_alloc_some _ y1
      have y2' : (wr.alloc (.cells #[.slice ra m rc, .int .i64 wear, .bool bad] 34)).cell? ⟨b', off' + k * 3 + 2, none⟩ = _ := Lib.cell?_alloc_some _ y2
      have q1' : (wr.alloc (.cells #[.slice ra m rc, .int .i64 wear, .bool bad] 34)).cell? ⟨H + 1, 0, none⟩ = _ := Lib.cell?_alloc_some _ q1
      obtain ⟨V, hV⟩ : ∃ V, (wr.alloc (.cells #[.slice ra m rc, .int .i64 wear, .bool bad] 34)).alloc (.cells #[.slice ra' m rc', .int .i64 wear, .bool bad] 34) = V := ⟨_, rfl⟩
      obtain ⟨G, hG⟩ : ∃ G, wr.heap.size = G := ⟨_, rfl⟩
      rw [hV] at bA u0 u1
      rw [hG] at u0 u1
      have HU0 : Hid (Blk V G 34 #[.slice ra m rc, .int .i64 wear, .bool bad]) := u0
      have HU1 : Hid (Blk V (G + 1) 34 #[.slice ra' m rc', .int .i64 wear, .bool bad]) := u1
      have HRP : Hid (RdPs V ra ps) := hrp.keep bA
      have HRP' : Hid (RdPs V ra' ps') := hrp'.keep bA
      have HBV : Hid (Below W0.heap.size W0 V) := hB.out.trans (bA.mono hsz)
      have hwf : (wear != wear) = false := by simp
      have hbf : (bad != bad) = false := by simp
      have hmf : ((m : Int) != (m : Int)) = false := by simp
      obtain ⟨v0, v1, v2⟩ : _ ∧ _ ∧ _ := ⟨u0.cell 0, u0.cell 1, u0.cell 2⟩
      obtain ⟨t0, t1, t2⟩ : _ ∧ _ ∧ _ := ⟨u1.cell 0, u1.cell 1, u1.cell 2⟩
      simp at v0 v1 v2 t0 t1 t2
      clear hrk hrk' hrp hrp' htp htp' e1 hml hm bA u0 u1 hsz
      go_upto_region 8 with fail
      try rw [hV]
      try rw [hG]
      clear hV hG x0 x1 x2 y0 y1 y2 y0' y1' y2' q0 q1 q1'
      go_wp2
      go_loopw [8] (fun i wr => ∃ j : Nat, j ≤ m ∧ i = .int .i64 j ∧ Hid (Below V.heap.size V wr)) (fun i _ => m - (intOf i).toNat)
      case atStart => exact ⟨0, Nat.zero_le _, rfl, Below.refl _ _⟩
      case round =>
        obtain ⟨j, hj, rfl, hBi⟩ := hrel
        clear v0 v1 v2 t0 t1 t2
        have v0 := (HU0.out.keep hBi.out).cell 0
        have t0 := (HU1.out.keep hBi.out).cell 0
        simp at v0 t0
        by_cases hjm : j < m
        · have hji : (j : Int) < (m : Int) := by omega
          obtain ⟨p, hp⟩ : ∃ p, ps[j]? = some p := ⟨_, List.getElem?_eq_getElem (by rw [HM.out]; exact hjm)⟩
          obtain ⟨p', hp'⟩ : ∃ p, ps'[j]? = some p := ⟨_, List.getElem?_eq_getElem (by rw [HM'.out]; exact hjm)⟩
          obtain ⟨e1, e2⟩ := pg_same HPS.out hp hp'
          obtain ⟨pb, po, rfl, plt, pc⟩ := (HRP.out.keep hBi.out).lt (by intro e; subst e; simp at hp)
          obtain ⟨pb', po', rfl, plt', pc'⟩ := (HRP'.out.keep hBi.out).lt (by intro e; subst e; simp at hp')
          obtain ⟨⟨p0, p1⟩, pr⟩ := pc j p hp
          obtain ⟨⟨r0, r1⟩, prr⟩ := pc' j p' hp'
          have hzl : p.zs.length ≤ 1048576 := by
            have h1 : p.D ∈ ps.map PgR.D := List.mem_map_of_mem (List.mem_of_getElem? hp)
            have := totP_mem h1
            have h2 := HTP.out
            have h3 : p.D.zs = p.zs := rfl
            rw [h3] at this
            omega
          obtain ⟨us, pa, pcap, zs⟩ := p
          obtain ⟨us', pa', pcap', zs'⟩ := p'
          dsimp only at p0 p1 pr r0 r1 prr e1 e2 hzl
          subst e1 e2
          obtain ⟨l, hl⟩ : ∃ l, zs.length = l := ⟨_, rfl⟩
          rw [hl] at p1 r1 hzl
          have HL : Hid (zs.length = l) := hl
          have huf : (us != us) = false := by simp
          have hcall := sameLb_any pa pa' l l pcap pcap' zs zs wr.drew HL.out HL.out (by omega) (by omega) (pr.keep (Below.refl _ _).drew) (prr.keep (Below.refl _ _).drew)
          rw [show decide (zs = zs) = true by simp] at hcall
          have HPC : Hid (∀ d, (wr.drew.drewN d).cell? ⟨G, 0, none⟩ = some (.slice (some ⟨pb, po, none⟩) m rc) ∧ (wr.drew.drewN d).cell? ⟨G + 1, 0, none⟩ = some (.slice (some ⟨pb', po', none⟩) m rc') ∧ (wr.drew.drewN d).cell? ⟨pb, po + j * 2, none⟩ = some (.bool us) ∧ (wr.drew.drewN d).cell? ⟨pb, po + j * 2 + 1, none⟩ = some (.slice pa l pcap) ∧ (wr.drew.drewN d).cell? ⟨pb', po' + j * 2, none⟩ = some (.bool us) ∧ (wr.drew.drewN d).cell? ⟨pb', po' + j * 2 + 1, none⟩ = some (.slice pa' l pcap')) := fun d => ⟨v0, t0, p0, p1, r0, r1⟩
          have HBI : Hid (Below V.heap.size V wr.drew) := hBi.out.drew
          clear hp hp' pc pc' pr prr hl plt plt'
          go_upto_region 13 with fail
          refine wp_region_noPanic ?_
          refine wp_region_held_drew (S := fun W : World => W.cell? ⟨G, 0, none⟩ = some (.slice (some ⟨pb, po, none⟩) m rc) ∧ W.cell? ⟨G + 1, 0, none⟩ = some (.slice (some ⟨pb', po', none⟩) m rc') ∧ W.cell? ⟨pb, po + j * 2, none⟩ = some (.bool us) ∧ W.cell? ⟨pb, po + j * 2 + 1, none⟩ = some (.slice pa l pcap) ∧ W.cell? ⟨pb', po' + j * 2, none⟩ = some (.bool us) ∧ W.cell? ⟨pb', po' + j * 2 + 1, none⟩ = some (.slice pa' l pcap')) (by kernel_rfl) (by go_keep) (fun hS => ?_)
          refine wpAnyH_take (i := 0) (v := ?gv1) rfl (by kernel_rfl) (by kernel_rfl) (by kernel_rfl) (fun _ _ _ h => h) (Or.inl ⟨by kernel_rfl, ?gy1⟩) (by assumption) ?gr1
          case gy1 => (intro w' hSw; (try dsimp only at hSw); go_simp; (try with_reducible rfl))
          try simp only [Act.put, List.setIfInBounds_toArray, List.set_cons_zero, List.set_cons_succ, List.getElem_toArray, List.getElem_cons_zero]
          refine wpAnyH_take (i := 1) (v := ?gv2) rfl (by kernel_rfl) (by kernel_rfl) (by kernel_rfl) (fun _ _ _ h => h) (Or.inl ⟨by kernel_rfl, ?gy2⟩) (by assumption) ?gr2
          case gy2 => (intro w' hSw; (try dsimp only at hSw); go_simp; (try with_reducible rfl))
          try simp only [Act.put, List.setIfInBounds_toArray, List.set_cons_zero, List.set_cons_succ, List.getElem_toArray, List.getElem_cons_succ, List.getElem_cons_zero]
          refine wpAnyH_take (i := 2) (v := ?gv3) rfl (by kernel_rfl) (by kernel_rfl) (by kernel_rfl) (fun _ _ _ h => h) (Or.inl ⟨by kernel_rfl, ?gy3⟩) (by assumption) ?gr3
          case gy3 => (intro w' hSw; (try dsimp only at hSw); go_simp; (try with_reducible rfl))
          try simp only [Act.put, List.setIfInBounds_toArray, List.set_cons_zero, List.set_cons_succ, List.getElem_toArray, List.getElem_cons_succ, List.getElem_cons_zero]
          refine wpAnyH_take (i := 3) (v := ?gv4) rfl (by kernel_rfl) (by kernel_rfl) (by kernel_rfl) (fun _ _ _ h => h) (Or.inl ⟨by kernel_rfl, ?gy4⟩) (by assumption) ?gr4
          case gy4 => (intro w' hSw; (try dsimp only at hSw); go_simp; (try with_reducible rfl))
          try simp only [Act.put, List.setIfInBounds_toArray, List.set_cons_zero, List.set_cons_succ, List.getElem_toArray, List.getElem_cons_succ, List.getElem_cons_zero]
          refine wpAnyH_take (i := 4) (v := ?gv5) rfl (by kernel_rfl) (by kernel_rfl) (by kernel_rfl) (fun _ _ _ h => h) (Or.inl ⟨by kernel_rfl, ?gy5⟩) (by assumption) ?gr5
          case gy5 => (intro w' hSw; (try dsimp only at hSw); go_simp; (try with_reducible rfl))
          try simp only [Act.put, List.setIfInBounds_toArray, List.set_cons_zero, List.set_cons_succ, List.getElem_toArray, List.getElem_cons_succ, List.getElem_cons_zero]
          refine wpAnyH_take (i := 5) (v := ?gv6) rfl (by kernel_rfl) (by kernel_rfl) (by kernel_rfl) (fun _ _ _ h => h) (Or.inl ⟨by kernel_rfl, ?gy6⟩) (by assumption) ?gr6
          case gy6 => (intro w' hSw; (try dsimp only at hSw); go_simp; (try with_reducible rfl))
          try simp only [Act.put, List.setIfInBounds_toArray, List.set_cons_zero, List.set_cons_succ, List.getElem_toArray, List.getElem_cons_succ, List.getElem_cons_zero]
          refine wpAnyH_take (i := 6) (v := ?gv7) rfl (by kernel_rfl) (by kernel_rfl) (by kernel_rfl) (fun _ _ _ h => h) (Or.inl ⟨by kernel_rfl, ?gy7⟩) (by assumption) ?gr7
          case gy7 => (intro w' hSw; (try dsimp only at hSw); go_simp; (try with_reducible rfl))
          try simp only [Act.put, List.setIfInBounds_toArray, List.set_cons_zero, List.set_cons_succ, List.getElem_toArray, List.getElem_cons_succ, List.getElem_cons_zero]
          refine wpAnyH_take (i := 7) (v := ?gv8) rfl (by kernel_rfl) (by kernel_rfl) (by kernel_rfl) (fun _ _ _ h => h) (Or.inl ⟨by kernel_rfl, ?gy8⟩) (by assumption) ?gr8
          case gy8 => (intro w' hSw; (try dsimp only at hSw); go_simp; (try with_reducible rfl))
          try simp only [Act.put, List.setIfInBounds_toArray, List.set_cons_zero, List.set_cons_succ, List.getElem_toArray, List.getElem_cons_succ, List.getElem_cons_zero]
          refine wpAnyH_take (i := 8) (v := ?gv9) rfl (by kernel_rfl) (by kernel_rfl) (by kernel_rfl) (fun _ _ _ h => h) (Or.inl ⟨by kernel_rfl, ?gy9⟩) (by assumption) ?gr9
          case gy9 => (intro w' hSw; (try dsimp only at hSw); go_simp; (try with_reducible rfl))
          try simp only [Act.put, List.setIfInBounds_toArray, List.set_cons_zero, List.set_cons_succ, List.getElem_toArray, List.getElem_cons_succ, List.getElem_cons_zero]
          refine wpAnyH_take (i := 9) (v := ?gv10) rfl (by kernel_rfl) (by kernel_rfl) (by kernel_rfl) (fun _ _ _ h => h) (Or.inl ⟨by kernel_rfl, ?gy10⟩) (by assumption) ?gr10
          case gy10 => (intro w' hSw; (try dsimp only at hSw); go_simp; (try with_reducible rfl))
          try simp only [Act.put, List.setIfInBounds_toArray, List.set_cons_zero, List.set_cons_succ, List.getElem_toArray, List.getElem_cons_succ, List.getElem_cons_zero]
          refine wpAnyH_take (i := 10) (v := ?gv11) rfl (by kernel_rfl) (by kernel_rfl) (by kernel_rfl) (fun _ _ _ h => h) (Or.inl ⟨by kernel_rfl, ?gy11⟩) (by assumption) ?gr11
          case gy11 => (intro w' hSw; (try dsimp only at hSw); go_simp; (try with_reducible rfl))
          try simp only [Act.put, List.setIfInBounds_toArray, List.set_cons_zero, List.set_cons_succ, List.getElem_toArray, List.getElem_cons_succ, List.getElem_cons_zero]
          refine wpAnyH_take (i := 11) (v := ?gv12) rfl (by kernel_rfl) (by kernel_rfl) (by kernel_rfl) (fun _ _ _ h => h) (Or.inl ⟨by kernel_rfl, ?gy12⟩) (by assumption) ?gr12
          case gy12 => (intro w' hSw; (try dsimp only at hSw); go_simp; (try with_reducible rfl))
          try simp only [Act.put, List.setIfInBounds_toArray, List.set_cons_zero, List.set_cons_succ, List.getElem_toArray, List.getElem_cons_succ, List.getElem_cons_zero]
          refine wpAnyH_take (i := 12) (v := ?gv13) rfl (by kernel_rfl) (by kernel_rfl) (by kernel_rfl) (fun _ _ _ h => h) (Or.inl ⟨by kernel_rfl, ?gy13⟩) (by assumption) ?gr13
          case gy13 => (intro w' hSw; (try dsimp only at hSw); go_simp; (try with_reducible rfl))
          try simp only [Act.put, List.setIfInBounds_toArray, List.set_cons_zero, List.set_cons_succ, List.getElem_toArray, List.getElem_cons_succ, List.getElem_cons_zero]
          refine wpAnyH_take (i := 13) (v := ?gv14) rfl (by kernel_rfl) (by kernel_rfl) (by kernel_rfl) (fun _ _ _ h => h) (Or.inl ⟨by kernel_rfl, ?gy14⟩) (by assumption) ?gr14
          case gy14 => (intro w' hSw; (try dsimp only at hSw); go_simp; (try with_reducible rfl))
          try simp only [Act.put, List.setIfInBounds_toArray, List.set_cons_zero, List.set_cons_succ, List.getElem_toArray, List.getElem_cons_succ, List.getElem_cons_zero]
          refine wpAnyH_take (i := 14) (v := ?gv15) rfl (by kernel_rfl) (by kernel_rfl) (by kernel_rfl) (fun _ _ _ h => h) (Or.inl ⟨by kernel_rfl, ?gy15⟩) (by assumption) ?gr15
          case gy15 => (intro w' hSw; (try dsimp only at hSw); go_simp; (try with_reducible rfl))
          try simp only [Act.put, List.setIfInBounds_toArray, List.set_cons_zero, List.set_cons_succ, List.getElem_toArray, List.getElem_cons_succ, List.getElem_cons_zero]
          refine wpAnyH_take (i := 15) (v := ?gv16) rfl (by kernel_rfl) (by kernel_rfl) (by kernel_rfl) (fun _ _ _ h => h) (Or.inl ⟨by kernel_rfl, ?gy16⟩) (by assumption) ?gr16
          case gy16 => (intro w' hSw; (try dsimp only at hSw); go_simp; (try with_reducible rfl))
          try simp only [Act.put, List.setIfInBounds_toArray, List.set_cons_zero, List.set_cons_succ, List.getElem_toArray, List.getElem_cons_succ, List.getElem_cons_zero]
          refine wpAnyH_take (i := 16) (v := ?gv17) rfl (by kernel_rfl) (by kernel_rfl) (by kernel_rfl) (fun _ _ _ h => h) (Or.inl ⟨by kernel_rfl, ?gy17⟩) (by assumption) ?gr17
          case gy17 => (intro w' hSw; (try dsimp only at hSw); go_simp; (try with_reducible rfl))
          try simp only [Act.put, List.setIfInBounds_toArray, List.set_cons_zero, List.set_cons_succ, List.getElem_toArray, List.getElem_cons_succ, List.getElem_cons_zero]
          refine wpAnyH_take (i := 17) (v := ?gv18) rfl (by kernel_rfl) (by kernel_rfl) (by kernel_rfl) (fun _ _ _ h => h) (Or.inl ⟨by kernel_rfl, ?gy18⟩) (by assumption) ?gr18
          case gy18 => (intro w' hSw; (try dsimp only at hSw); go_simp; (try with_reducible rfl))
          try simp only [Act.put, List.setIfInBounds_toArray, List.set_cons_zero, List.set_cons_succ, List.getElem_toArray, List.getElem_cons_succ, List.getElem_cons_zero]
          refine wpAnyH_take (i := 18) (v := ?gv19) rfl (by kernel_rfl) (by kernel_rfl) (by kernel_rfl) (fun _ _ _ h => h) (Or.inl ⟨by kernel_rfl, ?gy19⟩) (by assumption) ?gr19
          case gy19 => (intro w' hSw; (try dsimp only at hSw); go_simp; (try with_reducible rfl))
          try simp only [Act.put, List.setIfInBounds_toArray, List.set_cons_zero, List.set_cons_succ, List.getElem_toArray, List.getElem_cons_succ, List.getElem_cons_zero]
          refine wpAnyH_take (i := 19) (v := ?gv20) rfl (by kernel_rfl) (by kernel_rfl) (by kernel_rfl) (fun _ _ _ h => h) (Or.inl ⟨by kernel_rfl, ?gy20⟩) (by assumption) ?gr20
          case gy20 => (intro w' hSw; (try dsimp only at hSw); go_simp; (try with_reducible rfl))
          try simp only [Act.put, List.setIfInBounds_toArray, List.set_cons_zero, List.set_cons_succ, List.getElem_toArray, List.getElem_cons_succ, List.getElem_cons_zero]
          refine wpAnyH_take (i := 20) (v := ?gv21) rfl (by kernel_rfl) (by kernel_rfl) (by kernel_rfl) (fun _ _ _ h => h) (Or.inl ⟨by kernel_rfl, ?gy21⟩) (by assumption) ?gr21
          case gy21 => (intro w' hSw; (try dsimp only at hSw); go_simp; (try with_reducible rfl))
          try simp only [Act.put, List.setIfInBounds_toArray, List.set_cons_zero, List.set_cons_succ, List.getElem_toArray, List.getElem_cons_succ, List.getElem_cons_zero]
          refine wpAnyH_take (i := 21) (v := ?gv22) rfl (by kernel_rfl) (by kernel_rfl) (by kernel_rfl) (fun _ _ _ h => h) (Or.inl ⟨by kernel_rfl, ?gy22⟩) (by assumption) ?gr22
          case gy22 => (intro w' hSw; (try dsimp only at hSw); go_simp; (try with_reducible rfl))
          try simp only [Act.put, List.setIfInBounds_toArray, List.set_cons_zero, List.set_cons_succ, List.getElem_toArray, List.getElem_cons_succ, List.getElem_cons_zero]
          refine wpAnyH_take (i := 22) (v := ?gv23) rfl (by kernel_rfl) (by kernel_rfl) (by kernel_rfl) (fun _ _ _ h => h) (Or.inl ⟨by kernel_rfl, ?gy23⟩) (by assumption) ?gr23
          case gy23 => (intro w' hSw; (try dsimp only at hSw); go_simp; (try with_reducible rfl))
          try simp only [Act.put, List.setIfInBounds_toArray, List.set_cons_zero, List.set_cons_succ, List.getElem_toArray, List.getElem_cons_succ, List.getElem_cons_zero]
          refine wpAnyH_take (i := 23) (v := ?gv24) rfl (by kernel_rfl) (by kernel_rfl) (by kernel_rfl) (fun _ _ _ h => h) (Or.inl ⟨by kernel_rfl, ?gy24⟩) (by assumption) ?gr24
          case gy24 => (intro w' hSw; (try dsimp only at hSw); go_simp; (try with_reducible rfl))
          try simp only [Act.put, List.setIfInBounds_toArray, List.set_cons_zero, List.set_cons_succ, List.getElem_toArray, List.getElem_cons_succ, List.getElem_cons_zero]
          refine wpAnyH_take (i := 24) (v := ?gv25) rfl (by kernel_rfl) (by kernel_rfl) (by kernel_rfl) (fun _ _ _ h => h) (Or.inl ⟨by kernel_rfl, ?gy25⟩) (by assumption) ?gr25
          case gy25 => (intro w' hSw; (try dsimp only at hSw); go_simp; (try with_reducible rfl))
          try simp only [Act.put, List.setIfInBounds_toArray, List.set_cons_zero, List.set_cons_succ, List.getElem_toArray, List.getElem_cons_succ, List.getElem_cons_zero]
          refine wpAnyH_take (i := 25) (v := ?gv26) rfl (by kernel_rfl) (by kernel_rfl) (by kernel_rfl) (fun _ _ _ h => h) (Or.inl ⟨by kernel_rfl, ?gy26⟩) (by assumption) ?gr26
          case gy26 => (intro w' hSw; (try dsimp only at hSw); go_simp; (try with_reducible rfl))
          try simp only [Act.put, List.setIfInBounds_toArray, List.set_cons_zero, List.set_cons_succ, List.getElem_toArray, List.getElem_cons_succ, List.getElem_cons_zero]
          refine wpAnyH_ready (rs := [26]) (by kernel_rfl) (by simp) ?_
          refine AllReadyH.cons rfl (fun K hK => ?_) AllReadyH.nil
          go_simp
          (with_reducible refine hcall.mono ?_)
          rintro e u26 ⟨rfl, dd, rfl⟩
          have q26 := HPC.out dd
          clear hS
          dsimp only
          refine Shut.out hK _ _ (q26) (fun hS => ?_)
          try simp only [Act.put, List.setIfInBounds_toArray, List.set_cons_zero, List.set_cons_succ, List.getElem_toArray, List.getElem_cons_succ, List.getElem_cons_zero]
          refine wpAnyH_take (i := 27) (v := ?gv27) rfl (by kernel_rfl) (by kernel_rfl) (by kernel_rfl) (fun _ _ _ h => h) (Or.inl ⟨by kernel_rfl, ?gy27⟩) (by assumption) ?gr27
          case gy27 => (intro w' hSw; (try dsimp only at hSw); go_simp; (try with_reducible rfl))
          try simp only [Act.put, List.setIfInBounds_toArray, List.set_cons_zero, List.set_cons_succ, List.getElem_toArray, List.getElem_cons_succ, List.getElem_cons_zero]
          refine wpAnyH_take (i := 28) (v := ?gv28) rfl (by kernel_rfl) (by kernel_rfl) (by kernel_rfl) (fun _ _ _ h => h) (Or.inl ⟨by kernel_rfl, ?gy28⟩) (by assumption) ?gr28
          case gy28 => (intro w' hSw; (try dsimp only at hSw); go_simp; (try with_reducible rfl))
          try simp only [Act.put, List.setIfInBounds_toArray, List.set_cons_zero, List.set_cons_succ, List.getElem_toArray, List.getElem_cons_succ, List.getElem_cons_zero]
          refine wpAnyH_done (by kernel_rfl) (NoPanic.normal ?_) _
          have HBN : Hid (Below V.heap.size V (wr.drewN (1 + dd))) := below_drewN hBi.out (1 + dd)
          clear hcall v0 t0 p0 p1 r0 r1
          go_wp2
          go_roundw
          all_goals first
            | (case rel => exact ⟨j + 1, by omega, by go_num, HBN⟩)
            | (case rel => (repeat apply Exists.intro); exact ⟨⟨j + 1, by omega, by go_num, HBN⟩, rfl⟩)
            | (case measure => simp [intOf]; omega)
        · have hji : ¬ (j : Int) < (m : Int) := by omega
          have HBI : Hid (Below W0.heap.size W0 wr) := HBV.out.trans (hBi.out.mono HBV.out.size)
          clear t0 hBi
          go_wp2
          go_roundw
          all_goals first
            | (case rel => exact ⟨k + 1, by omega, by go_num, HBI⟩)
            | (case rel => (repeat apply Exists.intro); exact ⟨⟨k + 1, by omega, by go_num, HBI⟩, rfl⟩)
            | (case measure => simp [intOf]; omega)
    · have hki : ¬ (k : Int) < (n : Int) := by omega
      go_wp2
      go_ret
      exact ⟨rfl, by have h9 := HB0.out.trans (hB.out.mono HB0.out.size); first | exact h9 | (rw [← hH]; exact h9)⟩
end

section
open Go.RowKit
set_option maxRecDepth 100000 in
set_option maxHeartbeats 8000000 in
theorem walkErased (a0 : Option Addr) (len0 cap0 : Nat) (zs : List Int) (w : World) (hn : zs.length = len0) (hr : Rd w a0 zs) (hb : Byt zs) (hg : EtCell w) :
    Calls Tryd.prog 3 #[.slice a0 len0 cap0] w fun e w' => e = .returned (.bool true) ∧ Below w.heap.size w w' := by
  by_cases hbig : 1048576 < len0
  · have hd : decide ((1048576 : Int) < (len0 : Int)) = true := by simp; omega
    go_enter Tryd.func3, Tryd.ntmps3
    go_wp2_with fail
    refine (big_any a0 len0 cap0 w).mono ?_
    rintro e w1 ⟨rfl, hw⟩
    obtain rfl := hw.symm
    rw [hd]
    go_wp2
    go_ret
    exact ⟨rfl, Below.refl _ _⟩
  have hd : decide ((1048576 : Int) < (len0 : Int)) = false := by simp; omega
  have hcD := drawErase_any a0 len0 cap0 zs w hn (by omega) hr hb
  have HG : Hid (EtCell w) := hg
  clear hn hr hb hg
  go_enter Tryd.func3, Tryd.ntmps3
  go_wp2_with fail
  refine (big_any a0 len0 cap0 w).mono ?_
  rintro e w1 ⟨rfl, hw⟩
  obtain rfl := hw.symm
  rw [hd]
  clear hd hbig
  go_wp2_with fail
  refine hcD.mono ?_
  rintro e w1 ⟨va, vn, vc, qs, x, rfl, hcr, hvn, hx, B1⟩
  clear hcD
  have bA : Below w1.heap.size w1 (w1.alloc (.cells #[.slice va vn vc] 26)) := (Below.refl _ _).alloc (Nat.le_refl _) _
  have z1 := Blk.new w1 26 #[.slice va vn vc]
  have B2 := B1.trans (bA.mono B1.size)
  have hcr2 := hcr.keep bA
  obtain ⟨W2, hW2⟩ : ∃ W, w1.alloc (.cells #[.slice va vn vc] 26) = W := ⟨_, rfl⟩
  obtain ⟨C, hC⟩ : ∃ C, w1.heap.size = C := ⟨_, rfl⟩
  rw [hW2] at z1 B2 hcr2
  rw [hC] at z1
  have hEt : EtCell W2 := EtCell.keep HG.out B2
  have hcI := eraseI va vn vc qs x W2 hcr2 hEt
  have hsame := fun (h : codeE (chipOkB (qs.map BkR.D)) (qs.map BkR.D) x ≠ 0) => show eraseD (chipOkB (qs.map BkR.D)) (qs.map BkR.D) x = qs.map BkR.D by unfold eraseD; rw [if_neg h]
  have hgood := fun (h : codeE (chipOkB (qs.map BkR.D)) (qs.map BkR.D) x = 0) => erased_of (ds := qs.map BkR.D) (x := x) h
  have hlenE : (eraseD (chipOkB (qs.map BkR.D)) (qs.map BkR.D) x).length = vn := by
    rw [← hcr2.len]
    unfold eraseD
    split
    · unfold eraseAt; split <;> simp
    · simp
  have hcS := fun (W : World) (h : CR W va vn qs) => eraseS va vn vc qs x W h
  obtain ⟨dE, hdE⟩ : ∃ d, eraseD (chipOkB (qs.map BkR.D)) (qs.map BkR.D) x = d := ⟨_, rfl⟩
  obtain ⟨cd, hcd⟩ : ∃ d, codeE (chipOkB (qs.map BkR.D)) (qs.map BkR.D) x = d := ⟨_, rfl⟩
  rw [hdE] at hcI hsame hlenE hcS
  rw [hcd] at hcI hsame hcS
  have HDE : Hid (eraseD (chipOkB (qs.map BkR.D)) (qs.map BkR.D) x = dE) := hdE
  have HCD : Hid (codeE (chipOkB (qs.map BkR.D)) (qs.map BkR.D) x = cd) := hcd
  have HZ2 : Hid (Blk W2 C 26 #[.slice va vn vc]) := z1
  have HCR2 : Hid (CR W2 va vn qs) := hcr2
  have HB2 : Hid (Below w.heap.size w W2) := B2
  have HSM : Hid _ := hsame
  have HGD : Hid _ := hgood
  have q1 := z1.cell 0
  simp at q1
  clear hcr B1 bA z1 hcr2 B2 hEt hsame hgood hdE hcd
  go_wp2_with fail
  try rw [hW2]
  try rw [hC]
  clear hW2 hC
  refine hcI.mono ?_
  rintro e w3 ⟨xa, xn, xc, xs, rfl, hbs, hxn, b3⟩
  have hD3 := hbs.D
  have hxl : xn = vn := by rw [← hlenE, ← hD3, List.length_map, hxn]
  have hxl2 := hxl.symm
  subst hxl2
  have hEtot : totB dE ≤ 1048576 := by
    by_cases h : cd = 0
    · obtain ⟨k, b, hE⟩ := HGD.out (HCD.out.trans h)
      rw [← HDE.out, hE.new]
      exact ok_tot hE.ok2
    · rw [HSM.out h]; exact HCR2.out.tot
  have hxr3 : CR w3 xa vn xs := ⟨hxn, by rw [hD3]; exact hEtot, hbs.rd⟩
  clear hcI q1 hbs hlenE
  have bA : Below w3.heap.size w3 (w3.alloc (.cells #[.slice xa vn xc] 26)) := (Below.refl _ _).alloc (Nat.le_refl _) _
  have z4 := Blk.new w3 26 #[.slice xa vn xc]
  have b4 := b3.trans (bA.mono b3.size)
  have hxr4 := hxr3.keep bA
  obtain ⟨W4, hW4⟩ : ∃ W, w3.alloc (.cells #[.slice xa vn xc] 26) = W := ⟨_, rfl⟩
  obtain ⟨X, hX⟩ : ∃ C, w3.heap.size = C := ⟨_, rfl⟩
  rw [hW4] at z4 b4 hxr4
  rw [hX] at z4
  have hcr4 := HCR2.out.keep b4
  have hcS4 := hcS W4 hcr4
  have q2 := (HZ2.out.keep b4).cell 0
  simp at q2
  have HZ4 : Hid (Blk W4 X 26 #[.slice xa vn xc]) := z4
  have HB4 : Hid (Below W2.heap.size W2 W4) := b4
  have HXR4 : Hid (CR W4 xa vn xs) := hxr4
  clear b3 bA z4 b4 hxr3 hxr4 hcS hcr4 hEtot
  go_wp2_with fail
  try rw [hW4]
  try rw [hX]
  clear hW4 hX
  refine hcS4.mono ?_
  rintro e w5 ⟨sa, sn, sc, ss, rfl, _, _, b5⟩
  have bA : Below w5.heap.size w5 (w5.alloc (.cells #[.slice sa sn sc] 26)) := (Below.refl _ _).alloc (Nat.le_refl _) _
  have b6 := b5.trans (bA.mono b5.size)
  obtain ⟨W6, hW6⟩ : ∃ W, w5.alloc (.cells #[.slice sa sn sc] 26) = W := ⟨_, rfl⟩
  rw [hW6] at b6
  have h26 := HB4.out.trans (b6.mono HB4.out.size)
  have HC6 : Hid (Blk W6 C 26 #[.slice va vn vc]) := HZ2.out.keep h26
  have HX6 : Hid (Blk W6 X 26 #[.slice xa vn xc]) := HZ4.out.keep b6
  have HCR6 : Hid (CR W6 va vn qs) := HCR2.out.keep h26
  have HXR6 : Hid (CR W6 xa vn xs) := HXR4.out.keep b6
  have HB6 : Hid (Below w.heap.size w W6) := HB2.out.trans (h26.mono HB2.out.size)
  have HD3 : Hid (xs.map BkR.D = dE) := hD3
  have q0 := HC6.out.cell 0
  have q1 := HX6.out.cell 0
  simp at q0 q1
  have hcc : (cd != cd) = false := by simp
  have hce : (cd == cd) = true := by simp
  clear hcS4 b5 bA b6 h26 q2 HZ4 HB4 HXR4 HZ2 HCR2 HB2 HG hD3 hxn
  by_cases hc0 : cd = 0
  case neg =>
    have hcn : (cd != 0) = true := by simp [hc0]
    have hcall := sameChip_same xa va vn xc vc xs qs W6 HXR6.out HCR6.out (HD3.out.trans (HSM.out hc0))
    go_wp2_with fail
    try rw [hW6]
    clear hW6
    refine hcall.mono ?_
    rintro e w7 ⟨rfl, b7⟩
    go_wp2
    go_ret
    exact ⟨rfl, HB6.out.trans (b7.mono HB6.out.size)⟩
  case pos =>
  obtain ⟨k, b, hE⟩ := HGD.out (HCD.out.trans hc0)
  have hcn : (cd != 0) = false := by simp [hc0]
  obtain rfl := hE.xk
  have hEd : Hid (xs.map BkR.D = (qs.map BkR.D).set k (bkE1 b)) := by show _ = _; rw [HD3.out, ← HDE.out, hE.new]
  have hkl : k < vn := by have := hE.len; have h2 := HCR6.out.len; simp at this; omega
  have HEE : Hid (Erased (qs.map BkR.D) (k : Int) k b) := hE
  clear hE HSM HGD HDE HCD HD3
  go_upto_block 0 with fail
  try rw [hW6]
  clear hW6
  go_wp2
  go_loopw [9] (fun i wr => ∃ j : Nat, j ≤ vn ∧ i = .int .i64 j ∧ Hid (Below W6.heap.size W6 wr)) (fun i _ => vn - (intOf i).toNat)
  case atStart => exact ⟨0, Nat.zero_le _, rfl, Below.refl _ _⟩
  case round =>
    obtain ⟨j, hj, rfl, hB⟩ := hrel
    clear q0 q1
    have q0 := (HC6.out.keep hB.out).cell 0
    have q1 := (HX6.out.keep hB.out).cell 0
    simp at q0 q1
    have hBD : Hid (Below W6.heap.size W6 wr.drew) := hB.out.drew
    have HKK : Hid (∀ W : World, Below wr.drew.heap.size wr.drew W → Below W6.heap.size W6 W) := fun W hW => hBD.out.trans (hW.mono hBD.out.size)
    have hcN : ∀ (W : World) (i : Nat), Below wr.drew.heap.size wr.drew W → Calls Tryd.prog 10 #[.agg #[.slice xa vn xc], .int .i64 (i : Int)] W fun e w' => e = .returned (.int .i64 (nextD ((qs.map BkR.D).set k (bkE1 b)) (i : Int))) ∧ Below W.heap.size W w' := fun W i hW => by
      have := nextI xa vn xc xs (i : Int) W (HXR6.out.keep (HKK.out W hW))
      rw [hEd.out] at this
      exact this
    have hcM : ∀ (W : World) (i : Nat), Below wr.drew.heap.size wr.drew W → Calls Tryd.prog 10 #[.agg #[.slice va vn vc], .int .i64 (i : Int)] W fun e w' => e = .returned (.int .i64 (nextD (qs.map BkR.D) (i : Int))) ∧ Below W.heap.size W w' := fun W i hW => nextI va vn vc qs (i : Int) W (HCR6.out.keep (HKK.out W hW))
    by_cases hjn : j < vn
    · have hji : (j : Int) < (vn : Int) := by omega
      by_cases hjk : j = k
      · have hjf : ((j : Int) != (k : Int)) = false := by simp [hjk]
        clear hcN hcM
        go_upto_region 11 with fail
        have p0 : wr.drew.cell? ⟨C, 0, none⟩ = some (.slice va vn vc) := q0
        refine wp_region_noPanic ?_
        refine wp_region_held_drew (S := fun W : World => W.cell? ⟨C, 0, none⟩ = some (.slice va vn vc)) (by kernel_rfl) (by go_keep) (fun hS => ?_)
        refine wpAnyH_take (i := 0) (v := ?gv1) rfl (by kernel_rfl) (by kernel_rfl) (by kernel_rfl) (fun _ _ _ h => h) (Or.inl ⟨by kernel_rfl, ?gy1⟩) (by assumption) ?gr1
        case gy1 => (intro w' hSw; (try dsimp only at hSw); go_simp; (try with_reducible rfl))
        try simp only [Act.put, List.setIfInBounds_toArray, List.set_cons_zero, List.set_cons_succ, List.getElem_toArray, List.getElem_cons_zero]
        refine wpAnyH_take (i := 1) (v := ?gv2) rfl (by kernel_rfl) (by kernel_rfl) (by kernel_rfl) (fun _ _ _ h => h) (Or.inl ⟨by kernel_rfl, ?gy2⟩) (by assumption) ?gr2
        case gy2 => (intro w' hSw; (try dsimp only at hSw); go_simp; (try with_reducible rfl))
        try simp only [Act.put, List.setIfInBounds_toArray, List.set_cons_zero, List.set_cons_succ, List.getElem_toArray, List.getElem_cons_succ, List.getElem_cons_zero]
        refine wpAnyH_take (i := 2) (v := ?gv3) rfl (by kernel_rfl) (by kernel_rfl) (by kernel_rfl) (fun _ _ _ h => h) (Or.inl ⟨by kernel_rfl, ?gy3⟩) (by assumption) ?gr3
        case gy3 => (intro w' hSw; (try dsimp only at hSw); go_simp; (try with_reducible rfl))
        try simp only [Act.put, List.setIfInBounds_toArray, List.set_cons_zero, List.set_cons_succ, List.getElem_toArray, List.getElem_cons_succ, List.getElem_cons_zero]
        refine wpAnyH_take (i := 3) (v := ?gv4) rfl (by kernel_rfl) (by kernel_rfl) (by kernel_rfl) (fun _ _ _ h => h) (Or.inl ⟨by kernel_rfl, ?gy4⟩) (by assumption) ?gr4
        case gy4 => (intro w' hSw; (try dsimp only at hSw); go_simp; (try with_reducible rfl))
        try simp only [Act.put, List.setIfInBounds_toArray, List.set_cons_zero, List.set_cons_succ, List.getElem_toArray, List.getElem_cons_succ, List.getElem_cons_zero]
        refine wpAnyH_take (i := 4) (v := undef) rfl (by kernel_rfl) (by kernel_rfl) (by kernel_rfl) (fun _ _ _ h => h) (Or.inr ⟨by kernel_rfl, rfl⟩) (by assumption) ?_
        try simp only [Act.put, List.setIfInBounds_toArray, List.set_cons_zero, List.set_cons_succ, List.getElem_toArray, List.getElem_cons_succ, List.getElem_cons_zero]
        refine wpAnyH_take (i := 5) (v := undef) rfl (by kernel_rfl) (by kernel_rfl) (by kernel_rfl) (fun _ _ _ h => h) (Or.inr ⟨by kernel_rfl, rfl⟩) (by assumption) ?_
        try simp only [Act.put, List.setIfInBounds_toArray, List.set_cons_zero, List.set_cons_succ, List.getElem_toArray, List.getElem_cons_succ, List.getElem_cons_zero]
        refine wpAnyH_take (i := 6) (v := undef) rfl (by kernel_rfl) (by kernel_rfl) (by kernel_rfl) (fun _ _ _ h => h) (Or.inr ⟨by kernel_rfl, rfl⟩) (by assumption) ?_
        try simp only [Act.put, List.setIfInBounds_toArray, List.set_cons_zero, List.set_cons_succ, List.getElem_toArray, List.getElem_cons_succ, List.getElem_cons_zero]
        refine wpAnyH_take (i := 7) (v := undef) rfl (by kernel_rfl) (by kernel_rfl) (by kernel_rfl) (fun _ _ _ h => h) (Or.inr ⟨by kernel_rfl, rfl⟩) (by assumption) ?_
        try simp only [Act.put, List.setIfInBounds_toArray, List.set_cons_zero, List.set_cons_succ, List.getElem_toArray, List.getElem_cons_succ, List.getElem_cons_zero]
        refine wpAnyH_take (i := 8) (v := undef) rfl (by kernel_rfl) (by kernel_rfl) (by kernel_rfl) (fun _ _ _ h => h) (Or.inr ⟨by kernel_rfl, rfl⟩) (by assumption) ?_
        try simp only [Act.put, List.setIfInBounds_toArray, List.set_cons_zero, List.set_cons_succ, List.getElem_toArray, List.getElem_cons_succ, List.getElem_cons_zero]
        refine wpAnyH_take (i := 9) (v := undef) rfl (by kernel_rfl) (by kernel_rfl) (by kernel_rfl) (fun _ _ _ h => h) (Or.inr ⟨by kernel_rfl, rfl⟩) (by assumption) ?_
        try simp only [Act.put, List.setIfInBounds_toArray, List.set_cons_zero, List.set_cons_succ, List.getElem_toArray, List.getElem_cons_succ, List.getElem_cons_zero]
        refine wpAnyH_take (i := 10) (v := undef) rfl (by kernel_rfl) (by kernel_rfl) (by kernel_rfl) (fun _ _ _ h => h) (Or.inr ⟨by kernel_rfl, rfl⟩) (by assumption) ?_
        try simp only [Act.put, List.setIfInBounds_toArray, List.set_cons_zero, List.set_cons_succ, List.getElem_toArray, List.getElem_cons_succ, List.getElem_cons_zero]
        refine wpAnyH_take (i := 11) (v := undef) rfl (by kernel_rfl) (by kernel_rfl) (by kernel_rfl) (fun _ _ _ h => h) (Or.inr ⟨by kernel_rfl, rfl⟩) (by assumption) ?_
        try simp only [Act.put, List.setIfInBounds_toArray, List.set_cons_zero, List.set_cons_succ, List.getElem_toArray, List.getElem_cons_succ, List.getElem_cons_zero]
        refine wpAnyH_take (i := 12) (v := undef) rfl (by kernel_rfl) (by kernel_rfl) (by kernel_rfl) (fun _ _ _ h => h) (Or.inr ⟨by kernel_rfl, rfl⟩) (by assumption) ?_
        try simp only [Act.put, List.setIfInBounds_toArray, List.set_cons_zero, List.set_cons_succ, List.getElem_toArray, List.getElem_cons_succ, List.getElem_cons_zero]
        refine wpAnyH_take (i := 13) (v := undef) rfl (by kernel_rfl) (by kernel_rfl) (by kernel_rfl) (fun _ _ _ h => h) (Or.inr ⟨by kernel_rfl, rfl⟩) (by assumption) ?_
        try simp only [Act.put, List.setIfInBounds_toArray, List.set_cons_zero, List.set_cons_succ, List.getElem_toArray, List.getElem_cons_succ, List.getElem_cons_zero]
        refine wpAnyH_take (i := 14) (v := undef) rfl (by kernel_rfl) (by kernel_rfl) (by kernel_rfl) (fun _ _ _ h => h) (Or.inr ⟨by kernel_rfl, rfl⟩) (by assumption) ?_
        try simp only [Act.put, List.setIfInBounds_toArray, List.set_cons_zero, List.set_cons_succ, List.getElem_toArray, List.getElem_cons_succ, List.getElem_cons_zero]
        refine wpAnyH_take (i := 15) (v := undef) rfl (by kernel_rfl) (by kernel_rfl) (by kernel_rfl) (fun _ _ _ h => h) (Or.inr ⟨by kernel_rfl, rfl⟩) (by assumption) ?_
        try simp only [Act.put, List.setIfInBounds_toArray, List.set_cons_zero, List.set_cons_succ, List.getElem_toArray, List.getElem_cons_succ, List.getElem_cons_zero]
        refine wpAnyH_take (i := 16) (v := undef) rfl (by kernel_rfl) (by kernel_rfl) (by kernel_rfl) (fun _ _ _ h => h) (Or.inr ⟨by kernel_rfl, rfl⟩) (by assumption) ?_
        try simp only [Act.put, List.setIfInBounds_toArray, List.set_cons_zero, List.set_cons_succ, List.getElem_toArray, List.getElem_cons_succ, List.getElem_cons_zero]
        refine wpAnyH_take (i := 17) (v := undef) rfl (by kernel_rfl) (by kernel_rfl) (by kernel_rfl) (fun _ _ _ h => h) (Or.inr ⟨by kernel_rfl, rfl⟩) (by assumption) ?_
        try simp only [Act.put, List.setIfInBounds_toArray, List.set_cons_zero, List.set_cons_succ, List.getElem_toArray, List.getElem_cons_succ, List.getElem_cons_zero]
        refine wpAnyH_take (i := 18) (v := undef) rfl (by kernel_rfl) (by kernel_rfl) (by kernel_rfl) (fun _ _ _ h => h) (Or.inr ⟨by kernel_rfl, rfl⟩) (by assumption) ?_
        try simp only [Act.put, List.setIfInBounds_toArray, List.set_cons_zero, List.set_cons_succ, List.getElem_toArray, List.getElem_cons_succ, List.getElem_cons_zero]
        refine wpAnyH_take (i := 19) (v := undef) rfl (by kernel_rfl) (by kernel_rfl) (by kernel_rfl) (fun _ _ _ h => h) (Or.inr ⟨by kernel_rfl, rfl⟩) (by assumption) ?_
        try simp only [Act.put, List.setIfInBounds_toArray, List.set_cons_zero, List.set_cons_succ, List.getElem_toArray, List.getElem_cons_succ, List.getElem_cons_zero]
        refine wpAnyH_take (i := 20) (v := undef) rfl (by kernel_rfl) (by kernel_rfl) (by kernel_rfl) (fun _ _ _ h => h) (Or.inr ⟨by kernel_rfl, rfl⟩) (by assumption) ?_
        try simp only [Act.put, List.setIfInBounds_toArray, List.set_cons_zero, List.set_cons_succ, List.getElem_toArray, List.getElem_cons_succ, List.getElem_cons_zero]
        refine wpAnyH_take (i := 21) (v := undef) rfl (by kernel_rfl) (by kernel_rfl) (by kernel_rfl) (fun _ _ _ h => h) (Or.inr ⟨by kernel_rfl, rfl⟩) (by assumption) ?_
        try simp only [Act.put, List.setIfInBounds_toArray, List.set_cons_zero, List.set_cons_succ, List.getElem_toArray, List.getElem_cons_succ, List.getElem_cons_zero]
        refine wpAnyH_take (i := 22) (v := undef) rfl (by kernel_rfl) (by kernel_rfl) (by kernel_rfl) (fun _ _ _ h => h) (Or.inr ⟨by kernel_rfl, rfl⟩) (by assumption) ?_
        try simp only [Act.put, List.setIfInBounds_toArray, List.set_cons_zero, List.set_cons_succ, List.getElem_toArray, List.getElem_cons_succ, List.getElem_cons_zero]
        refine wpAnyH_take (i := 23) (v := undef) rfl (by kernel_rfl) (by kernel_rfl) (by kernel_rfl) (fun _ _ _ h => h) (Or.inr ⟨by kernel_rfl, rfl⟩) (by assumption) ?_
        try simp only [Act.put, List.setIfInBounds_toArray, List.set_cons_zero, List.set_cons_succ, List.getElem_toArray, List.getElem_cons_succ, List.getElem_cons_zero]
        refine wpAnyH_take (i := 24) (v := undef) rfl (by kernel_rfl) (by kernel_rfl) (by kernel_rfl) (fun _ _ _ h => h) (Or.inr ⟨by kernel_rfl, rfl⟩) (by assumption) ?_
        try simp only [Act.put, List.setIfInBounds_toArray, List.set_cons_zero, List.set_cons_succ, List.getElem_toArray, List.getElem_cons_succ, List.getElem_cons_zero]
        refine wpAnyH_take (i := 25) (v := undef) rfl (by kernel_rfl) (by kernel_rfl) (by kernel_rfl) (fun _ _ _ h => h) (Or.inr ⟨by kernel_rfl, rfl⟩) (by assumption) ?_
        try simp only [Act.put, List.setIfInBounds_toArray, List.set_cons_zero, List.set_cons_succ, List.getElem_toArray, List.getElem_cons_succ, List.getElem_cons_zero]
        refine wpAnyH_take (i := 26) (v := ?gv5) rfl (by kernel_rfl) (by kernel_rfl) (by kernel_rfl) (fun _ _ _ h => h) (Or.inl ⟨by kernel_rfl, ?gy5⟩) (by assumption) ?gr5
        case gy5 => (intro w' hSw; (try dsimp only at hSw); go_simp; (try with_reducible rfl))
        try simp only [Act.put, List.setIfInBounds_toArray, List.set_cons_zero, List.set_cons_succ, List.getElem_toArray, List.getElem_cons_succ, List.getElem_cons_zero]
        refine wpAnyH_done (by kernel_rfl) (NoPanic.normal ?_) _
        clear q0 q1 p0
        go_wp2
        go_roundw
        all_goals first
          | (case rel => exact ⟨j + 1, by omega, by go_num, hBD⟩)
          | (case rel => (repeat apply Exists.intro); exact ⟨⟨j + 1, by omega, by go_num, hBD⟩, rfl⟩)
          | (case measure => simp [intOf]; omega)
      · have hjf : ((j : Int) != (k : Int)) = true := by simp; omega
        obtain ⟨h1, h2⟩ := HEE.out.other hjk
        obtain ⟨cb, co, cr, hca, clt, hcrk, ⟨_, c1, _⟩, _, _⟩ := (HCR6.out.keep hB.out).some hjn
        obtain ⟨xb, xo, xr, hxa, xlt, hxrk, ⟨_, x1, _⟩, _, _⟩ := (HXR6.out.keep hB.out).some hjn
        have hwe : xr.wear = cr.wear := by
          have e1 : (xs.map BkR.D)[j]? = some xr.D := by rw [List.getElem?_map, hxrk]; rfl
          have e2 : (qs.map BkR.D)[j]? = some cr.D := by rw [List.getElem?_map, hcrk]; rfl
          rw [hEd.out, h2, e2] at e1
          simp only [Option.some.injEq, BkR.D, BkD.mk.injEq] at e1
          exact e1.2.1.symm
        rw [hwe] at x1
        obtain ⟨wv, hwv⟩ : ∃ v, cr.wear = v := ⟨_, rfl⟩
        rw [hwv] at c1 x1
        subst hca hxa
        have hcNj := fun (W : World) (hW : Below wr.drew.heap.size wr.drew W) => hcN W j hW
        have hcMj := fun (W : World) (hW : Below wr.drew.heap.size wr.drew W) => hcM W j hW
        rw [h1] at hcNj
        generalize nextD (qs.map BkR.D) (j : Int) = nv at hcNj hcMj
        have hnf : (nv != nv) = false := by simp
        have hwf : (wv != wv) = false := by simp
        have HK : Hid (∀ W : World, Below wr.drew.heap.size wr.drew W → W.cell? ⟨C, 0, none⟩ = some (.slice (some ⟨cb, co, none⟩) vn vc) ∧ W.cell? ⟨X, 0, none⟩ = some (.slice (some ⟨xb, xo, none⟩) vn xc) ∧ W.cell? ⟨cb, co + j * 3 + 1, none⟩ = some (.int .i64 wv) ∧ W.cell? ⟨xb, xo + j * 3 + 1, none⟩ = some (.int .i64 wv)) := fun W hW => by
          have u0 := (HC6.out.keep (HKK.out W hW)).cell 0
          have u1 := (HX6.out.keep (HKK.out W hW)).cell 0
          simp at u0 u1
          exact ⟨u0, u1, (hW.cell clt).trans c1, (hW.cell xlt).trans x1⟩
        have pp := HK.out wr.drew (Below.refl _ _)
        obtain ⟨p0, p1, p2, p3⟩ := pp
        clear hcN hcM h1 h2 hcrk hxrk hwe hwv
        go_upto_region 11 with fail
        refine wp_region_noPanic ?_
        refine wp_region_held_drew (S := fun W : World => W.cell? ⟨C, 0, none⟩ = some (.slice (some ⟨cb, co, none⟩) vn vc) ∧ W.cell? ⟨X, 0, none⟩ = some (.slice (some ⟨xb, xo, none⟩) vn xc) ∧ W.cell? ⟨cb, co + j * 3 + 1, none⟩ = some (.int .i64 wv) ∧ W.cell? ⟨xb, xo + j * 3 + 1, none⟩ = some (.int .i64 wv)) (by kernel_rfl) (by go_keep) (fun hS => ?_)
        refine wpAnyH_take (i := 0) (v := ?gv6) rfl (by kernel_rfl) (by kernel_rfl) (by kernel_rfl) (fun _ _ _ h => h) (Or.inl ⟨by kernel_rfl, ?gy6⟩) (by assumption) ?gr6
        case gy6 => (intro w' hSw; (try dsimp only at hSw); go_simp; (try with_reducible rfl))
        try simp only [Act.put, List.setIfInBounds_toArray, List.set_cons_zero, List.set_cons_succ, List.getElem_toArray, List.getElem_cons_zero]
        refine wpAnyH_take (i := 1) (v := ?gv7) rfl (by kernel_rfl) (by kernel_rfl) (by kernel_rfl) (fun _ _ _ h => h) (Or.inl ⟨by kernel_rfl, ?gy7⟩) (by assumption) ?gr7
        case gy7 => (intro w' hSw; (try dsimp only at hSw); go_simp; (try with_reducible rfl))
        try simp only [Act.put, List.setIfInBounds_toArray, List.set_cons_zero, List.set_cons_succ, List.getElem_toArray, List.getElem_cons_succ, List.getElem_cons_zero]
        refine wpAnyH_take (i := 2) (v := ?gv8) rfl (by kernel_rfl) (by kernel_rfl) (by kernel_rfl) (fun _ _ _ h => h) (Or.inl ⟨by kernel_rfl, ?gy8⟩) (by assumption) ?gr8
        case gy8 => (intro w' hSw; (try dsimp only at hSw); go_simp; (try with_reducible rfl))
        try simp only [Act.put, List.setIfInBounds_toArray, List.set_cons_zero, List.set_cons_succ, List.getElem_toArray, List.getElem_cons_succ, List.getElem_cons_zero]
        refine wpAnyH_take (i := 3) (v := ?gv9) rfl (by kernel_rfl) (by kernel_rfl) (by kernel_rfl) (fun _ _ _ h => h) (Or.inl ⟨by kernel_rfl, ?gy9⟩) (by assumption) ?gr9
        case gy9 => (intro w' hSw; (try dsimp only at hSw); go_simp; (try with_reducible rfl))
        try simp only [Act.put, List.setIfInBounds_toArray, List.set_cons_zero, List.set_cons_succ, List.getElem_toArray, List.getElem_cons_succ, List.getElem_cons_zero]
        refine wpAnyH_take (i := 4) (v := ?gv10) rfl (by kernel_rfl) (by kernel_rfl) (by kernel_rfl) (fun _ _ _ h => h) (Or.inl ⟨by kernel_rfl, ?gy10⟩) (by assumption) ?gr10
        case gy10 => (intro w' hSw; (try dsimp only at hSw); go_simp; (try with_reducible rfl))
        try simp only [Act.put, List.setIfInBounds_toArray, List.set_cons_zero, List.set_cons_succ, List.getElem_toArray, List.getElem_cons_succ, List.getElem_cons_zero]
        refine wpAnyH_take (i := 5) (v := ?gv11) rfl (by kernel_rfl) (by kernel_rfl) (by kernel_rfl) (fun _ _ _ h => h) (Or.inl ⟨by kernel_rfl, ?gy11⟩) (by assumption) ?gr11
        case gy11 => (intro w' hSw; (try dsimp only at hSw); go_simp; (try with_reducible rfl))
        try simp only [Act.put, List.setIfInBounds_toArray, List.set_cons_zero, List.set_cons_succ, List.getElem_toArray, List.getElem_cons_succ, List.getElem_cons_zero]
        refine wpAnyH_take (i := 7) (v := ?gv12) rfl (by kernel_rfl) (by kernel_rfl) (by kernel_rfl) (fun _ _ _ h => h) (Or.inl ⟨by kernel_rfl, ?gy12⟩) (by assumption) ?gr12
        case gy12 => (intro w' hSw; (try dsimp only at hSw); go_simp; (try with_reducible rfl))
        try simp only [Act.put, List.setIfInBounds_toArray, List.set_cons_zero, List.set_cons_succ, List.getElem_toArray, List.getElem_cons_succ, List.getElem_cons_zero]
        refine wpAnyH_take (i := 8) (v := ?gv13) rfl (by kernel_rfl) (by kernel_rfl) (by kernel_rfl) (fun _ _ _ h => h) (Or.inl ⟨by kernel_rfl, ?gy13⟩) (by assumption) ?gr13
        case gy13 => (intro w' hSw; (try dsimp only at hSw); go_simp; (try with_reducible rfl))
        try simp only [Act.put, List.setIfInBounds_toArray, List.set_cons_zero, List.set_cons_succ, List.getElem_toArray, List.getElem_cons_succ, List.getElem_cons_zero]
        refine wpAnyH_ready (rs := [6]) (by kernel_rfl) (by simp) ?_
        refine AllReadyH.cons rfl (fun K hK => ?_) AllReadyH.nil
        go_simp
        (with_reducible refine (hcNj _ (Below.refl _ _)).mono ?_)
        rintro e u6 ⟨rfl, b6⟩
        have q6 := HK.out u6 b6
        clear hS
        dsimp only
        refine Shut.out hK _ _ (q6) (fun hS => ?_)
        try simp only [Act.put, List.setIfInBounds_toArray, List.set_cons_zero, List.set_cons_succ, List.getElem_toArray, List.getElem_cons_succ, List.getElem_cons_zero]
        refine wpAnyH_ready (rs := [9]) (by kernel_rfl) (by simp) ?_
        refine AllReadyH.cons rfl (fun K hK => ?_) AllReadyH.nil
        go_simp
        (with_reducible refine (hcMj _ b6).mono ?_)
        rintro e u9 ⟨rfl, b9⟩
        have c9 := b6.trans (b9.mono b6.size)
        have q9 := HK.out u9 c9
        clear hS
        dsimp only
        refine Shut.out hK _ _ (q9) (fun hS => ?_)
        try simp only [Act.put, List.setIfInBounds_toArray, List.set_cons_zero, List.set_cons_succ, List.getElem_toArray, List.getElem_cons_succ, List.getElem_cons_zero]
        refine wpAnyH_take (i := 10) (v := ?gv14) rfl (by kernel_rfl) (by kernel_rfl) (by kernel_rfl) (fun _ _ _ h => h) (Or.inl ⟨by kernel_rfl, ?gy14⟩) (by assumption) ?gr14
        case gy14 => (intro w' hSw; (try dsimp only at hSw); go_simp; (try with_reducible rfl))
        try simp only [Act.put, List.setIfInBounds_toArray, List.set_cons_zero, List.set_cons_succ, List.getElem_toArray, List.getElem_cons_succ, List.getElem_cons_zero]
        refine wpAnyH_take (i := 11) (v := ?gv15) rfl (by kernel_rfl) (by kernel_rfl) (by kernel_rfl) (fun _ _ _ h => h) (Or.inl ⟨by kernel_rfl, ?gy15⟩) (by assumption) ?gr15
        case gy15 => (intro w' hSw; (try dsimp only at hSw); go_simp; (try with_reducible rfl))
        try simp only [Act.put, List.setIfInBounds_toArray, List.set_cons_zero, List.set_cons_succ, List.getElem_toArray, List.getElem_cons_succ, List.getElem_cons_zero]
        refine wpAnyH_take (i := 12) (v := ?gv16) rfl (by kernel_rfl) (by kernel_rfl) (by kernel_rfl) (fun _ _ _ h => h) (Or.inl ⟨by kernel_rfl, ?gy16⟩) (by assumption) ?gr16
        case gy16 => (intro w' hSw; (try dsimp only at hSw); go_simp; (try with_reducible rfl))
        try simp only [Act.put, List.setIfInBounds_toArray, List.set_cons_zero, List.set_cons_succ, List.getElem_toArray, List.getElem_cons_succ, List.getElem_cons_zero]
        refine wpAnyH_take (i := 13) (v := ?gv17) rfl (by kernel_rfl) (by kernel_rfl) (by kernel_rfl) (fun _ _ _ h => h) (Or.inl ⟨by kernel_rfl, ?gy17⟩) (by assumption) ?gr17
        case gy17 => (intro w' hSw; (try dsimp only at hSw); go_simp; (try with_reducible rfl))
        try simp only [Act.put, List.setIfInBounds_toArray, List.set_cons_zero, List.set_cons_succ, List.getElem_toArray, List.getElem_cons_succ, List.getElem_cons_zero]
        refine wpAnyH_take (i := 14) (v := ?gv18) rfl (by kernel_rfl) (by kernel_rfl) (by kernel_rfl) (fun _ _ _ h => h) (Or.inl ⟨by kernel_rfl, ?gy18⟩) (by assumption) ?gr18
        case gy18 => (intro w' hSw; (try dsimp only at hSw); go_simp; (try with_reducible rfl))
        try simp only [Act.put, List.setIfInBounds_toArray, List.set_cons_zero, List.set_cons_succ, List.getElem_toArray, List.getElem_cons_succ, List.getElem_cons_zero]
        refine wpAnyH_take (i := 15) (v := ?gv19) rfl (by kernel_rfl) (by kernel_rfl) (by kernel_rfl) (fun _ _ _ h => h) (Or.inl ⟨by kernel_rfl, ?gy19⟩) (by assumption) ?gr19
        case gy19 => (intro w' hSw; (try dsimp only at hSw); go_simp; (try with_reducible rfl))
        try simp only [Act.put, List.setIfInBounds_toArray, List.set_cons_zero, List.set_cons_succ, List.getElem_toArray, List.getElem_cons_succ, List.getElem_cons_zero]
        refine wpAnyH_take (i := 16) (v := ?gv20) rfl (by kernel_rfl) (by kernel_rfl) (by kernel_rfl) (fun _ _ _ h => h) (Or.inl ⟨by kernel_rfl, ?gy20⟩) (by assumption) ?gr20
        case gy20 => (intro w' hSw; (try dsimp only at hSw); go_simp; (try with_reducible rfl))
        try simp only [Act.put, List.setIfInBounds_toArray, List.set_cons_zero, List.set_cons_succ, List.getElem_toArray, List.getElem_cons_succ, List.getElem_cons_zero]
        refine wpAnyH_take (i := 17) (v := ?gv21) rfl (by kernel_rfl) (by kernel_rfl) (by kernel_rfl) (fun _ _ _ h => h) (Or.inl ⟨by kernel_rfl, ?gy21⟩) (by assumption) ?gr21
        case gy21 => (intro w' hSw; (try dsimp only at hSw); go_simp; (try with_reducible rfl))
        try simp only [Act.put, List.setIfInBounds_toArray, List.set_cons_zero, List.set_cons_succ, List.getElem_toArray, List.getElem_cons_succ, List.getElem_cons_zero]
        refine wpAnyH_take (i := 18) (v := ?gv22) rfl (by kernel_rfl) (by kernel_rfl) (by kernel_rfl) (fun _ _ _ h => h) (Or.inl ⟨by kernel_rfl, ?gy22⟩) (by assumption) ?gr22
        case gy22 => (intro w' hSw; (try dsimp only at hSw); go_simp; (try with_reducible rfl))
        try simp only [Act.put, List.setIfInBounds_toArray, List.set_cons_zero, List.set_cons_succ, List.getElem_toArray, List.getElem_cons_succ, List.getElem_cons_zero]
        refine wpAnyH_take (i := 19) (v := ?gv23) rfl (by kernel_rfl) (by kernel_rfl) (by kernel_rfl) (fun _ _ _ h => h) (Or.inl ⟨by kernel_rfl, ?gy23⟩) (by assumption) ?gr23
        case gy23 => (intro w' hSw; (try dsimp only at hSw); go_simp; (try with_reducible rfl))
        try simp only [Act.put, List.setIfInBounds_toArray, List.set_cons_zero, List.set_cons_succ, List.getElem_toArray, List.getElem_cons_succ, List.getElem_cons_zero]
        refine wpAnyH_take (i := 20) (v := ?gv24) rfl (by kernel_rfl) (by kernel_rfl) (by kernel_rfl) (fun _ _ _ h => h) (Or.inl ⟨by kernel_rfl, ?gy24⟩) (by assumption) ?gr24
        case gy24 => (intro w' hSw; (try dsimp only at hSw); go_simp; (try with_reducible rfl))
        try simp only [Act.put, List.setIfInBounds_toArray, List.set_cons_zero, List.set_cons_succ, List.getElem_toArray, List.getElem_cons_succ, List.getElem_cons_zero]
        refine wpAnyH_take (i := 21) (v := ?gv25) rfl (by kernel_rfl) (by kernel_rfl) (by kernel_rfl) (fun _ _ _ h => h) (Or.inl ⟨by kernel_rfl, ?gy25⟩) (by assumption) ?gr25
        case gy25 => (intro w' hSw; (try dsimp only at hSw); go_simp; (try with_reducible rfl))
        try simp only [Act.put, List.setIfInBounds_toArray, List.set_cons_zero, List.set_cons_succ, List.getElem_toArray, List.getElem_cons_succ, List.getElem_cons_zero]
        refine wpAnyH_take (i := 22) (v := ?gv26) rfl (by kernel_rfl) (by kernel_rfl) (by kernel_rfl) (fun _ _ _ h => h) (Or.inl ⟨by kernel_rfl, ?gy26⟩) (by assumption) ?gr26
        case gy26 => (intro w' hSw; (try dsimp only at hSw); go_simp; (try with_reducible rfl))
        try simp only [Act.put, List.setIfInBounds_toArray, List.set_cons_zero, List.set_cons_succ, List.getElem_toArray, List.getElem_cons_succ, List.getElem_cons_zero]
        refine wpAnyH_take (i := 23) (v := ?gv27) rfl (by kernel_rfl) (by kernel_rfl) (by kernel_rfl) (fun _ _ _ h => h) (Or.inl ⟨by kernel_rfl, ?gy27⟩) (by assumption) ?gr27
        case gy27 => (intro w' hSw; (try dsimp only at hSw); go_simp; (try with_reducible rfl))
        try simp only [Act.put, List.setIfInBounds_toArray, List.set_cons_zero, List.set_cons_succ, List.getElem_toArray, List.getElem_cons_succ, List.getElem_cons_zero]
        refine wpAnyH_take (i := 24) (v := ?gv28) rfl (by kernel_rfl) (by kernel_rfl) (by kernel_rfl) (fun _ _ _ h => h) (Or.inl ⟨by kernel_rfl, ?gy28⟩) (by assumption) ?gr28
        case gy28 => (intro w' hSw; (try dsimp only at hSw); go_simp; (try with_reducible rfl))
        try simp only [Act.put, List.setIfInBounds_toArray, List.set_cons_zero, List.set_cons_succ, List.getElem_toArray, List.getElem_cons_succ, List.getElem_cons_zero]
        refine wpAnyH_take (i := 25) (v := ?gv29) rfl (by kernel_rfl) (by kernel_rfl) (by kernel_rfl) (fun _ _ _ h => h) (Or.inl ⟨by kernel_rfl, ?gy29⟩) (by assumption) ?gr29
        case gy29 => (intro w' hSw; (try dsimp only at hSw); go_simp; (try with_reducible rfl))
        try simp only [Act.put, List.setIfInBounds_toArray, List.set_cons_zero, List.set_cons_succ, List.getElem_toArray, List.getElem_cons_succ, List.getElem_cons_zero]
        refine wpAnyH_take (i := 26) (v := ?gv30) rfl (by kernel_rfl) (by kernel_rfl) (by kernel_rfl) (fun _ _ _ h => h) (Or.inl ⟨by kernel_rfl, ?gy30⟩) (by assumption) ?gr30
        case gy30 => (intro w' hSw; (try dsimp only at hSw); go_simp; (try with_reducible rfl))
        try simp only [Act.put, List.setIfInBounds_toArray, List.set_cons_zero, List.set_cons_succ, List.getElem_toArray, List.getElem_cons_succ, List.getElem_cons_zero]
        refine wpAnyH_done (by kernel_rfl) (NoPanic.normal ?_) _
        have HBN : Hid (Below W6.heap.size W6 u9) := HKK.out u9 c9
        clear q0 q1 p0 p1 p2 p3 hcNj hcMj q6 q9 c1 x1
        go_wp2
        go_roundw
        all_goals first
          | (case rel => exact ⟨j + 1, by omega, by go_num, HBN⟩)
          | (case rel => (repeat apply Exists.intro); exact ⟨⟨j + 1, by omega, by go_num, HBN⟩, rfl⟩)
          | (case measure => simp [intOf]; omega)
    · have hji : ¬ (j : Int) < (vn : Int) := by omega
      obtain ⟨s1, s2⟩ := HEE.out.self
      obtain ⟨w1', w2', w3'⟩ := HEE.out.worn
      obtain ⟨v1, v2⟩ := HEE.out.wear
      have hok2 : chipOkB ((qs.map BkR.D).set k (bkE1 b)) = true := (chipOkB_iff _).2 HEE.out.ok2
      obtain ⟨cb, co, cr, hca, clt, hcrk, ⟨_, c1, _⟩, _, _⟩ := (HCR6.out.keep hB.out).some hkl
      obtain ⟨xb, xo, xr, hxa, xlt, hxrk, ⟨_, x1, _⟩, _, _⟩ := (HXR6.out.keep hB.out).some hkl
      have hwc : cr.wear = b.wear := by
        have e2 : (qs.map BkR.D)[k]? = some cr.D := by rw [List.getElem?_map, hcrk]; rfl
        rw [HEE.out.at_] at e2
        simp only [Option.some.injEq] at e2
        rw [e2]
        rfl
      have hwx : xr.wear = b.wear + 1 := by
        have e1 : (xs.map BkR.D)[k]? = some xr.D := by rw [List.getElem?_map, hxrk]; rfl
        rw [hEd.out, s2] at e1
        simp only [Option.some.injEq] at e1
        have : (bkE1 b).wear = xr.D.wear := by rw [e1]
        exact this.symm
      rw [hwc] at c1
      rw [hwx] at x1
      subst hca hxa
      have hcNk := fun (W : World) (hW : Below wr.drew.heap.size wr.drew W) => hcN W k hW
      rw [s1] at hcNk
      have hcK : ∀ W : World, Below wr.drew.heap.size wr.drew W → Calls Tryd.prog 11 #[.agg #[.slice (some ⟨xb, xo, none⟩) vn xc]] W fun e w' => e = .returned (.bool true) ∧ Below W.heap.size W w' := fun W hW => by
        have := chipOkI (some ⟨xb, xo, none⟩) vn xc xs W (HXR6.out.keep (HKK.out W hW))
        rw [hEd.out, hok2] at this
        exact this
      have hcW : ∀ W : World, Below wr.drew.heap.size wr.drew W → Calls Tryd.prog 12 #[.agg #[.slice (some ⟨xb, xo, none⟩) vn xc]] W fun e w' => e = .returned (.int .i64 (wornD (qs.map BkR.D) + 1)) ∧ Below W.heap.size W w' := fun W hW => by
        have := wornI (some ⟨xb, xo, none⟩) vn xc xs W (HXR6.out.keep (HKK.out W hW))
        rw [hEd.out, w1'] at this
        exact this
      have hcV : ∀ W : World, Below wr.drew.heap.size wr.drew W → Calls Tryd.prog 12 #[.agg #[.slice (some ⟨cb, co, none⟩) vn vc]] W fun e w' => e = .returned (.int .i64 (wornD (qs.map BkR.D))) ∧ Below W.heap.size W w' := fun W hW => wornI (some ⟨cb, co, none⟩) vn vc qs W (HCR6.out.keep (HKK.out W hW))
      obtain ⟨wv, hwv⟩ : ∃ v, b.wear = v := ⟨_, rfl⟩
      obtain ⟨wt, hwt⟩ : ∃ v, wornD (qs.map BkR.D) = v := ⟨_, rfl⟩
      rw [hwv] at c1 x1 v1 v2
      rw [hwt] at hcW hcV w2' w3'
      have hki : (k : Int) < (vn : Int) := by omega
      have HK : Hid (∀ W : World, Below wr.drew.heap.size wr.drew W → W.cell? ⟨C, 0, none⟩ = some (.slice (some ⟨cb, co, none⟩) vn vc) ∧ W.cell? ⟨X, 0, none⟩ = some (.slice (some ⟨xb, xo, none⟩) vn xc) ∧ W.cell? ⟨cb, co + k * 3 + 1, none⟩ = some (.int .i64 wv) ∧ W.cell? ⟨xb, xo + k * 3 + 1, none⟩ = some (.int .i64 (wv + 1))) := fun W hW => by
        have u0 := (HC6.out.keep (HKK.out W hW)).cell 0
        have u1 := (HX6.out.keep (HKK.out W hW)).cell 0
        simp at u0 u1
        exact ⟨u0, u1, (hW.cell clt).trans c1, (hW.cell xlt).trans x1⟩
      have pp := HK.out wr.drew (Below.refl _ _)
      obtain ⟨p0, p1, p2, p3⟩ := pp
      have hwq : IntKind.i64.wrap (wv + 1) = wv + 1 := by rw [IntKind.wrap_i64]; omega
      have hwr : IntKind.i64.wrap (wt + 1) = wt + 1 := by rw [IntKind.wrap_i64]; omega
      have hee : ((wv + 1 : Int) == wv + 1) = true := by simp
      have hff : ((wt + 1 : Int) == wt + 1) = true := by simp
      clear hcN hcM s1 s2 hcrk hxrk hwc hwx hwv hwt w1' hok2
      go_upto_region 13 with fail
      refine wp_region_noPanic ?_
      refine wp_region_held_drew (S := fun W : World => W.cell? ⟨C, 0, none⟩ = some (.slice (some ⟨cb, co, none⟩) vn vc) ∧ W.cell? ⟨X, 0, none⟩ = some (.slice (some ⟨xb, xo, none⟩) vn xc) ∧ W.cell? ⟨cb, co + k * 3 + 1, none⟩ = some (.int .i64 wv) ∧ W.cell? ⟨xb, xo + k * 3 + 1, none⟩ = some (.int .i64 (wv + 1))) (by kernel_rfl) (by go_keep) (fun hS => ?_)
      refine wpAnyH_take (i := 0) (v := ?gv31) rfl (by kernel_rfl) (by kernel_rfl) (by kernel_rfl) (fun _ _ _ h => h) (Or.inl ⟨by kernel_rfl, ?gy31⟩) (by assumption) ?gr31
      case gy31 => (intro w' hSw; (try dsimp only at hSw); go_simp; (try with_reducible rfl))
      try simp only [Act.put, List.setIfInBounds_toArray, List.set_cons_zero, List.set_cons_succ, List.getElem_toArray, List.getElem_cons_zero]
      refine wpAnyH_take (i := 1) (v := ?gv32) rfl (by kernel_rfl) (by kernel_rfl) (by kernel_rfl) (fun _ _ _ h => h) (Or.inl ⟨by kernel_rfl, ?gy32⟩) (by assumption) ?gr32
      case gy32 => (intro w' hSw; (try dsimp only at hSw); go_simp; (try with_reducible rfl))
      try simp only [Act.put, List.setIfInBounds_toArray, List.set_cons_zero, List.set_cons_succ, List.getElem_toArray, List.getElem_cons_succ, List.getElem_cons_zero]
      refine wpAnyH_ready (rs := [2]) (by kernel_rfl) (by simp) ?_
      refine AllReadyH.cons rfl (fun K hK => ?_) AllReadyH.nil
      go_simp
      (with_reducible refine (hcNk _ (Below.refl _ _)).mono ?_)
      rintro e u2 ⟨rfl, b2⟩
      have q2 := HK.out u2 b2
      clear hS
      dsimp only
      refine Shut.out hK _ _ (q2) (fun hS => ?_)
      try simp only [Act.put, List.setIfInBounds_toArray, List.set_cons_zero, List.set_cons_succ, List.getElem_toArray, List.getElem_cons_succ, List.getElem_cons_zero]
      refine wpAnyH_take (i := 3) (v := ?gv33) rfl (by kernel_rfl) (by kernel_rfl) (by kernel_rfl) (fun _ _ _ h => h) (Or.inl ⟨by kernel_rfl, ?gy33⟩) (by assumption) ?gr33
      case gy33 => (intro w' hSw; (try dsimp only at hSw); go_simp; (try with_reducible rfl))
      try simp only [Act.put, List.setIfInBounds_toArray, List.set_cons_zero, List.set_cons_succ, List.getElem_toArray, List.getElem_cons_succ, List.getElem_cons_zero]
      refine wpAnyH_take (i := 4) (v := ?gv34) rfl (by kernel_rfl) (by kernel_rfl) (by kernel_rfl) (fun _ _ _ h => h) (Or.inl ⟨by kernel_rfl, ?gy34⟩) (by assumption) ?gr34
      case gy34 => (intro w' hSw; (try dsimp only at hSw); go_simp; (try with_reducible rfl))
      try simp only [Act.put, List.setIfInBounds_toArray, List.set_cons_zero, List.set_cons_succ, List.getElem_toArray, List.getElem_cons_succ, List.getElem_cons_zero]
      refine wpAnyH_take (i := 5) (v := ?gv35) rfl (by kernel_rfl) (by kernel_rfl) (by kernel_rfl) (fun _ _ _ h => h) (Or.inl ⟨by kernel_rfl, ?gy35⟩) (by assumption) ?gr35
      case gy35 => (intro w' hSw; (try dsimp only at hSw); go_simp; (try with_reducible rfl))
      try simp only [Act.put, List.setIfInBounds_toArray, List.set_cons_zero, List.set_cons_succ, List.getElem_toArray, List.getElem_cons_succ, List.getElem_cons_zero]
      refine wpAnyH_take (i := 6) (v := ?gv36) rfl (by kernel_rfl) (by kernel_rfl) (by kernel_rfl) (fun _ _ _ h => h) (Or.inl ⟨by kernel_rfl, ?gy36⟩) (by assumption) ?gr36
      case gy36 => (intro w' hSw; (try dsimp only at hSw); go_simp; (try with_reducible rfl))
      try simp only [Act.put, List.setIfInBounds_toArray, List.set_cons_zero, List.set_cons_succ, List.getElem_toArray, List.getElem_cons_succ, List.getElem_cons_zero]
      refine wpAnyH_take (i := 7) (v := ?gv37) rfl (by kernel_rfl) (by kernel_rfl) (by kernel_rfl) (fun _ _ _ h => h) (Or.inl ⟨by kernel_rfl, ?gy37⟩) (by assumption) ?gr37
      case gy37 => (intro w' hSw; (try dsimp only at hSw); go_simp; (try with_reducible rfl))
      try simp only [Act.put, List.setIfInBounds_toArray, List.set_cons_zero, List.set_cons_succ, List.getElem_toArray, List.getElem_cons_succ, List.getElem_cons_zero]
      refine wpAnyH_take (i := 8) (v := ?gv38) rfl (by kernel_rfl) (by kernel_rfl) (by kernel_rfl) (fun _ _ _ h => h) (Or.inl ⟨by kernel_rfl, ?gy38⟩) (by assumption) ?gr38
      case gy38 => (intro w' hSw; (try dsimp only at hSw); go_simp; (try with_reducible rfl))
      try simp only [Act.put, List.setIfInBounds_toArray, List.set_cons_zero, List.set_cons_succ, List.getElem_toArray, List.getElem_cons_succ, List.getElem_cons_zero]
      refine wpAnyH_take (i := 9) (v := ?gv39) rfl (by kernel_rfl) (by kernel_rfl) (by kernel_rfl) (fun _ _ _ h => h) (Or.inl ⟨by kernel_rfl, ?gy39⟩) (by assumption) ?gr39
      case gy39 => (intro w' hSw; (try dsimp only at hSw); go_simp; (try with_reducible rfl))
      try simp only [Act.put, List.setIfInBounds_toArray, List.set_cons_zero, List.set_cons_succ, List.getElem_toArray, List.getElem_cons_succ, List.getElem_cons_zero]
      refine wpAnyH_take (i := 10) (v := ?gv40) rfl (by kernel_rfl) (by kernel_rfl) (by kernel_rfl) (fun _ _ _ h => h) (Or.inl ⟨by kernel_rfl, ?gy40⟩) (by assumption) ?gr40
      case gy40 => (intro w' hSw; (try dsimp only at hSw); go_simp; (try with_reducible rfl))
      try simp only [Act.put, List.setIfInBounds_toArray, List.set_cons_zero, List.set_cons_succ, List.getElem_toArray, List.getElem_cons_succ, List.getElem_cons_zero]
      refine wpAnyH_take (i := 11) (v := ?gv41) rfl (by kernel_rfl) (by kernel_rfl) (by kernel_rfl) (fun _ _ _ h => h) (Or.inl ⟨by kernel_rfl, ?gy41⟩) (by assumption) ?gr41
      case gy41 => (intro w' hSw; (try dsimp only at hSw); go_simp; (try with_reducible rfl))
      try simp only [Act.put, List.setIfInBounds_toArray, List.set_cons_zero, List.set_cons_succ, List.getElem_toArray, List.getElem_cons_succ, List.getElem_cons_zero]
      refine wpAnyH_take (i := 12) (v := ?gv42) rfl (by kernel_rfl) (by kernel_rfl) (by kernel_rfl) (fun _ _ _ h => h) (Or.inl ⟨by kernel_rfl, ?gy42⟩) (by assumption) ?gr42
      case gy42 => (intro w' hSw; (try dsimp only at hSw); go_simp; (try with_reducible rfl))
      try simp only [Act.put, List.setIfInBounds_toArray, List.set_cons_zero, List.set_cons_succ, List.getElem_toArray, List.getElem_cons_succ, List.getElem_cons_zero]
      refine wpAnyH_take (i := 13) (v := ?gv43) rfl (by kernel_rfl) (by kernel_rfl) (by kernel_rfl) (fun _ _ _ h => h) (Or.inl ⟨by kernel_rfl, ?gy43⟩) (by assumption) ?gr43
      case gy43 => (intro w' hSw; (try dsimp only at hSw); go_simp; (try with_reducible rfl))
      try simp only [Act.put, List.setIfInBounds_toArray, List.set_cons_zero, List.set_cons_succ, List.getElem_toArray, List.getElem_cons_succ, List.getElem_cons_zero]
      refine wpAnyH_take (i := 14) (v := ?gv44) rfl (by kernel_rfl) (by kernel_rfl) (by kernel_rfl) (fun _ _ _ h => h) (Or.inl ⟨by kernel_rfl, ?gy44⟩) (by assumption) ?gr44
      case gy44 => (intro w' hSw; (try dsimp only at hSw); go_simp; (try with_reducible rfl))
      try simp only [Act.put, List.setIfInBounds_toArray, List.set_cons_zero, List.set_cons_succ, List.getElem_toArray, List.getElem_cons_succ, List.getElem_cons_zero]
      refine wpAnyH_take (i := 15) (v := ?gv45) rfl (by kernel_rfl) (by kernel_rfl) (by kernel_rfl) (fun _ _ _ h => h) (Or.inl ⟨by kernel_rfl, ?gy45⟩) (by assumption) ?gr45
      case gy45 => (intro w' hSw; (try dsimp only at hSw); go_simp; (try with_reducible rfl))
      try simp only [Act.put, List.setIfInBounds_toArray, List.set_cons_zero, List.set_cons_succ, List.getElem_toArray, List.getElem_cons_succ, List.getElem_cons_zero]
      refine wpAnyH_take (i := 16) (v := ?gv46) rfl (by kernel_rfl) (by kernel_rfl) (by kernel_rfl) (fun _ _ _ h => h) (Or.inl ⟨by kernel_rfl, ?gy46⟩) (by assumption) ?gr46
      case gy46 => (intro w' hSw; (try dsimp only at hSw); go_simp; (try with_reducible rfl))
      try simp only [Act.put, List.setIfInBounds_toArray, List.set_cons_zero, List.set_cons_succ, List.getElem_toArray, List.getElem_cons_succ, List.getElem_cons_zero]
      refine wpAnyH_take (i := 17) (v := ?gv47) rfl (by kernel_rfl) (by kernel_rfl) (by kernel_rfl) (fun _ _ _ h => h) (Or.inl ⟨by kernel_rfl, ?gy47⟩) (by assumption) ?gr47
      case gy47 => (intro w' hSw; (try dsimp only at hSw); go_simp; (try with_reducible rfl))
      try simp only [Act.put, List.setIfInBounds_toArray, List.set_cons_zero, List.set_cons_succ, List.getElem_toArray, List.getElem_cons_succ, List.getElem_cons_zero]
      refine wpAnyH_take (i := 18) (v := ?gv48) rfl (by kernel_rfl) (by kernel_rfl) (by kernel_rfl) (fun _ _ _ h => h) (Or.inl ⟨by kernel_rfl, ?gy48⟩) (by assumption) ?gr48
      case gy48 => (intro w' hSw; (try dsimp only at hSw); go_simp; (try with_reducible rfl))
      try simp only [Act.put, List.setIfInBounds_toArray, List.set_cons_zero, List.set_cons_succ, List.getElem_toArray, List.getElem_cons_succ, List.getElem_cons_zero]
      refine wpAnyH_take (i := 19) (v := ?gv49) rfl (by kernel_rfl) (by kernel_rfl) (by kernel_rfl) (fun _ _ _ h => h) (Or.inl ⟨by kernel_rfl, ?gy49⟩) (by assumption) ?gr49
      case gy49 => (intro w' hSw; (try dsimp only at hSw); go_simp; (try with_reducible rfl))
      try simp only [Act.put, List.setIfInBounds_toArray, List.set_cons_zero, List.set_cons_succ, List.getElem_toArray, List.getElem_cons_succ, List.getElem_cons_zero]
      refine wpAnyH_take (i := 20) (v := ?gv50) rfl (by kernel_rfl) (by kernel_rfl) (by kernel_rfl) (fun _ _ _ h => h) (Or.inl ⟨by kernel_rfl, ?gy50⟩) (by assumption) ?gr50
      case gy50 => (intro w' hSw; (try dsimp only at hSw); go_simp; (try with_reducible rfl))
      try simp only [Act.put, List.setIfInBounds_toArray, List.set_cons_zero, List.set_cons_succ, List.getElem_toArray, List.getElem_cons_succ, List.getElem_cons_zero]
      refine wpAnyH_take (i := 21) (v := ?gv51) rfl (by kernel_rfl) (by kernel_rfl) (by kernel_rfl) (fun _ _ _ h => h) (Or.inl ⟨by kernel_rfl, ?gy51⟩) (by assumption) ?gr51
      case gy51 => (intro w' hSw; (try dsimp only at hSw); go_simp; (try with_reducible rfl))
      try simp only [Act.put, List.setIfInBounds_toArray, List.set_cons_zero, List.set_cons_succ, List.getElem_toArray, List.getElem_cons_succ, List.getElem_cons_zero]
      refine wpAnyH_ready (rs := [22]) (by kernel_rfl) (by simp) ?_
      refine AllReadyH.cons rfl (fun K hK => ?_) AllReadyH.nil
      go_simp
      (with_reducible refine (hcK _ b2).mono ?_)
      rintro e u22 ⟨rfl, b22⟩
      have c22 := b2.trans (b22.mono b2.size)
      have q22 := HK.out u22 c22
      clear hS
      dsimp only
      refine Shut.out hK _ _ (q22) (fun hS => ?_)
      try simp only [Act.put, List.setIfInBounds_toArray, List.set_cons_zero, List.set_cons_succ, List.getElem_toArray, List.getElem_cons_succ, List.getElem_cons_zero]
      refine wpAnyH_take (i := 23) (v := ?gv52) rfl (by kernel_rfl) (by kernel_rfl) (by kernel_rfl) (fun _ _ _ h => h) (Or.inl ⟨by kernel_rfl, ?gy52⟩) (by assumption) ?gr52
      case gy52 => (intro w' hSw; (try dsimp only at hSw); go_simp; (try with_reducible rfl))
      try simp only [Act.put, List.setIfInBounds_toArray, List.set_cons_zero, List.set_cons_succ, List.getElem_toArray, List.getElem_cons_succ, List.getElem_cons_zero]
      refine wpAnyH_take (i := 24) (v := ?gv53) rfl (by kernel_rfl) (by kernel_rfl) (by kernel_rfl) (fun _ _ _ h => h) (Or.inl ⟨by kernel_rfl, ?gy53⟩) (by assumption) ?gr53
      case gy53 => (intro w' hSw; (try dsimp only at hSw); go_simp; (try with_reducible rfl))
      try simp only [Act.put, List.setIfInBounds_toArray, List.set_cons_zero, List.set_cons_succ, List.getElem_toArray, List.getElem_cons_succ, List.getElem_cons_zero]
      refine wpAnyH_take (i := 25) (v := ?gv54) rfl (by kernel_rfl) (by kernel_rfl) (by kernel_rfl) (fun _ _ _ h => h) (Or.inl ⟨by kernel_rfl, ?gy54⟩) (by assumption) ?gr54
      case gy54 => (intro w' hSw; (try dsimp only at hSw); go_simp; (try with_reducible rfl))
      try simp only [Act.put, List.setIfInBounds_toArray, List.set_cons_zero, List.set_cons_succ, List.getElem_toArray, List.getElem_cons_succ, List.getElem_cons_zero]
      refine wpAnyH_take (i := 27) (v := ?gv55) rfl (by kernel_rfl) (by kernel_rfl) (by kernel_rfl) (fun _ _ _ h => h) (Or.inl ⟨by kernel_rfl, ?gy55⟩) (by assumption) ?gr55
      case gy55 => (intro w' hSw; (try dsimp only at hSw); go_simp; (try with_reducible rfl))
      try simp only [Act.put, List.setIfInBounds_toArray, List.set_cons_zero, List.set_cons_succ, List.getElem_toArray, List.getElem_cons_succ, List.getElem_cons_zero]
      refine wpAnyH_ready (rs := [26]) (by kernel_rfl) (by simp) ?_
      refine AllReadyH.cons rfl (fun K hK => ?_) AllReadyH.nil
      go_simp
      (with_reducible refine (hcW _ c22).mono ?_)
      rintro e u26 ⟨rfl, b26⟩
      have c26 := c22.trans (b26.mono c22.size)
      have q26 := HK.out u26 c26
      clear hS
      dsimp only
      refine Shut.out hK _ _ (q26) (fun hS => ?_)
      try simp only [Act.put, List.setIfInBounds_toArray, List.set_cons_zero, List.set_cons_succ, List.getElem_toArray, List.getElem_cons_succ, List.getElem_cons_zero]
      refine wpAnyH_ready (rs := [28]) (by kernel_rfl) (by simp) ?_
      refine AllReadyH.cons rfl (fun K hK => ?_) AllReadyH.nil
      go_simp
      (with_reducible refine (hcV _ c26).mono ?_)
      rintro e u28 ⟨rfl, b28⟩
      have c28 := c26.trans (b28.mono c26.size)
      have q28 := HK.out u28 c28
      clear hS
      dsimp only
      refine Shut.out hK _ _ (q28) (fun hS => ?_)
      try simp only [Act.put, List.setIfInBounds_toArray, List.set_cons_zero, List.set_cons_succ, List.getElem_toArray, List.getElem_cons_succ, List.getElem_cons_zero]
      refine wpAnyH_take (i := 29) (v := ?gv56) rfl (by kernel_rfl) (by kernel_rfl) (by kernel_rfl) (fun _ _ _ h => h) (Or.inl ⟨by kernel_rfl, ?gy56⟩) (by assumption) ?gr56
      case gy56 => (intro w' hSw; (try dsimp only at hSw); go_simp; (try with_reducible rfl))
      try simp only [Act.put, List.setIfInBounds_toArray, List.set_cons_zero, List.set_cons_succ, List.getElem_toArray, List.getElem_cons_succ, List.getElem_cons_zero]
      refine wpAnyH_take (i := 30) (v := ?gv57) rfl (by kernel_rfl) (by kernel_rfl) (by kernel_rfl) (fun _ _ _ h => h) (Or.inl ⟨by kernel_rfl, ?gy57⟩) (by assumption) ?gr57
      case gy57 => (intro w' hSw; (try dsimp only at hSw); go_simp; (try with_reducible rfl))
      try simp only [Act.put, List.setIfInBounds_toArray, List.set_cons_zero, List.set_cons_succ, List.getElem_toArray, List.getElem_cons_succ, List.getElem_cons_zero]
      refine wpAnyH_take (i := 31) (v := ?gv58) rfl (by kernel_rfl) (by kernel_rfl) (by kernel_rfl) (fun _ _ _ h => h) (Or.inl ⟨by kernel_rfl, ?gy58⟩) (by assumption) ?gr58
      case gy58 => (intro w' hSw; (try dsimp only at hSw); go_simp; (try with_reducible rfl))
      try simp only [Act.put, List.setIfInBounds_toArray, List.set_cons_zero, List.set_cons_succ, List.getElem_toArray, List.getElem_cons_succ, List.getElem_cons_zero]
      refine wpAnyH_take (i := 32) (v := ?gv59) rfl (by kernel_rfl) (by kernel_rfl) (by kernel_rfl) (fun _ _ _ h => h) (Or.inl ⟨by kernel_rfl, ?gy59⟩) (by assumption) ?gr59
      case gy59 => (intro w' hSw; (try dsimp only at hSw); go_simp; (try with_reducible rfl))
      try simp only [Act.put, List.setIfInBounds_toArray, List.set_cons_zero, List.set_cons_succ, List.getElem_toArray, List.getElem_cons_succ, List.getElem_cons_zero]
      refine wpAnyH_done (by kernel_rfl) (NoPanic.normal ?_) _
      go_wp2
      go_ret
      have h9 := HKK.out u28 c28
      exact ⟨rfl, HB6.out.trans (h9.mono HB6.out.size)⟩
end
end Go.Proofs.YtcohppfocfepdaaDoor
