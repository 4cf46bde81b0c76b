/-
  LogOk, the specification's.
-/
import Derived.Test.YtpejfkgbfdkdnaaJ33B
namespace Go.Proofs.Ytpejfkgbfdkdnaa
open Go.RowKit
set_option maxRecDepth 100000 in
set_option maxHeartbeats 8000000 in
theorem mostS (a : Option Addr) (n cap : Nat) (bs : List BkR) (w : World) (ht : CR w a n bs) (hby : BytC (bs.map BkR.D)) (hcp : CapB bs) :
    Calls Try.prog 38 #[.agg #[.slice a n cap]] w fun e w' => e = .returned (.int .i64 (mostL (pgsL (bs.map BkR.D)))) ∧ Below w.heap.size w w' := by
  have B0 : Below w.heap.size w (w.alloc (.cells #[.slice a n cap] 26)) := (Below.refl _ w).alloc (Nat.le_refl _) _
  have z0 := Blk.new w 26 #[.slice a n cap]
  have HT : Hid _ := ht.keep B0
  have HB : Hid _ := B0
  have hn1 := ht.n
  have hln : Hid (bs.length = n) := ht.len
  have HBY : Hid (∀ (k : Nat) (r : BkR), bs[k]? = some r → ∀ (j : Nat) (p : PgR), r.ps[j]? = some p → Byt p.zs ∧ p.zs.length ≤ p.cap) := fun k r hk j p hj => ⟨hby r.D (List.mem_map_of_mem (List.mem_of_getElem? hk)) p.D (List.mem_map_of_mem (List.mem_of_getElem? hj)), hcp r (List.mem_of_getElem? hk) p (List.mem_of_getElem? hj)⟩
  clear ht B0 hby hcp
  obtain ⟨H, hH⟩ : ∃ H, w.heap.size = H := ⟨_, rfl⟩
  rw [hH] at z0
  go_enter Try.func38, Try.ntmps38
  go_wp2
  obtain ⟨W0, hW0⟩ : ∃ W, w.alloc (.cells #[.slice a n cap] 26) = W := ⟨_, rfl⟩
  rw [hW0] at HB HT z0 ⊢
  clear hW0
  try rw [hH]
  go_loopw [3, 4] (fun c i wr => ∃ (k : Nat) (s : Int), k ≤ n ∧ i = .int .i64 k ∧ c = .int .i64 s ∧ 0 ≤ s ∧ s ≤ 1000001 ∧ Hid (mostL (pgsL ((bs.take k).map BkR.D)) = s) ∧ Hid (Below W0.heap.size W0 wr)) (fun _ i _ => n - (intOf i).toNat)
  case atStart => exact ⟨0, 0, Nat.zero_le _, rfl, rfl, by omega, by omega, rfl, Below.refl _ _⟩
  case round =>
    obtain ⟨k, s, hk, rfl, rfl, hs0, hs1, hm, hB⟩ := hrel
    have t0 := (z0.keep hB.out).cell 0
    simp at t0
    by_cases hkn : k < n
    · have hki : (k : Int) < (n : Int) := by omega
      obtain ⟨b, off, r, rfl, hlt, hrk, x3, hrp, htp⟩ := (HT.out.keep hB.out).some hkn
      obtain ⟨x0, x1, x2⟩ := x3
      have hby := HBY.out k r hrk
      have hsn : pgsL ((bs.take (k + 1)).map BkR.D) = pgsL ((bs.take k).map BkR.D) ++ (r.ps.map PgR.D).map PgD.zs := by
        rw [List.take_add_one, hrk]
        simp only [Option.toList_some, List.map_append, List.map_cons, List.map_nil]
        rw [pgsL_snoc]
        rfl
      obtain ⟨L, hL⟩ : ∃ L, pgsL ((bs.take k).map BkR.D) = L := ⟨_, rfl⟩
      rw [hL] at hsn hm
      obtain ⟨ps, hps⟩ : ∃ ps, r.ps = ps := ⟨_, rfl⟩
      rw [hps] at x0 hrp htp hby hsn
      obtain ⟨n1, hn1⟩ : ∃ n1, ps.length = n1 := ⟨_, rfl⟩
      rw [hn1] at x0
      have hpl := totP_len (ps.map PgR.D)
      simp only [List.length_map] at hpl
      rw [hn1] at hpl
      have hn1m : n1 ≤ 1048576 := by omega
      have HPS : Hid (RdPs wr r.a ps) := hrp
      have HTP : Hid (totP (ps.map PgR.D) ≤ 1048576) := htp
      have HPB : Hid _ := hby
      have HSN : Hid _ := hsn
      have HPN : Hid (ps.length = n1) := hn1
      obtain ⟨ra, hra⟩ : ∃ x, r.a = x := ⟨_, rfl⟩
      obtain ⟨rc, hrc⟩ : ∃ x, r.cap = x := ⟨_, rfl⟩
      rw [hra, hrc] at x0
      rw [hra] at HPS
      have hbl : b < wr.heap.size := hlt
      clear hrk hL hps hrp htp hby hsn hn1 hra hrc x1 x2 hpl
      obtain ⟨wk, hwk⟩ : ∃ V, wr = V := ⟨_, rfl⟩
      have HBK : Hid (Below W0.heap.size W0 wk) := by rw [← hwk]; exact hB
      rw [hwk] at x0 t0 HPS hbl ⊢
      clear hB hwk
      go_wp2
      go_loopw [3, 5] (fun c j wr => ∃ (q : Nat) (u : Int), q ≤ n1 ∧ j = .int .i64 q ∧ c = .int .i64 u ∧ 0 ≤ u ∧ u ≤ 1000001 ∧ Hid (mostL (L ++ ((ps.take q).map PgR.D).map PgD.zs) = u) ∧ Hid (Below wk.heap.size wk wr)) (fun _ j _ => n1 - (intOf j).toNat)
      case atStart => exact ⟨0, s, Nat.zero_le _, rfl, rfl, hs0, hs1, by show _ = _; simpa using hm.out, Below.refl _ _⟩
      case round =>
        obtain ⟨q, u, hq, rfl, rfl, hu0, hu1, hmq, hBq⟩ := hrel
        have hBW := HBK.out.trans (hBq.out.mono HBK.out.size)
        have t0 := (z0.keep hBW).cell 0
        have x0 := (hBq.out.cell (p := ⟨b, off + k * 3, none⟩) hbl).trans x0
        simp at t0
        by_cases hqn : q < n1
        · have hqi : (q : Int) < (n1 : Int) := by omega
          obtain ⟨p, hpq⟩ : ∃ p, ps[q]? = some p := ⟨_, List.getElem?_eq_getElem (by rw [HPN.out]; exact hqn)⟩
          obtain ⟨b2, off2, rfl, hlt2, hc2⟩ := (HPS.out.keep hBq.out).lt (by intro h; rw [h] at hpq; simp at hpq)
          obtain ⟨⟨y0, y1⟩, hrz⟩ := hc2 q p hpq
          obtain ⟨hbz, hcz⟩ := HPB.out q p hpq
          have htz := totP_at hpq
          have htp := HTP.out
          have hsn2 : mostL (L ++ ((ps.take (q + 1)).map PgR.D).map PgD.zs) = mostF u p.zs := by
            rw [List.take_add_one, hpq]
            simp only [Option.toList_some, List.map_append, List.map_cons, List.map_nil]
            rw [← List.append_assoc, mostL_snoc, hmq.out]
            rfl
          obtain ⟨zs, hzs⟩ : ∃ zs, p.zs = zs := ⟨_, rfl⟩
          obtain ⟨pa, hpa⟩ : ∃ x, p.a = x := ⟨_, rfl⟩
          obtain ⟨pc, hpc⟩ : ∃ x, p.cap = x := ⟨_, rfl⟩
          rw [hzs] at hbz hcz htz hsn2
          rw [hzs, hpa, hpc] at y1
          rw [hzs, hpa] at hrz
          rw [hpc] at hcz
          obtain ⟨n3, hn3⟩ : ∃ n3, zs.length = n3 := ⟨_, rfl⟩
          rw [hn3] at y1 hcz htz
          have hcall := getRecSO pa n3 pc zs wr hn3 (by omega) hcz hrz hbz
          have hsq := fun h => rcR_seq (zs := zs) h
          unfold mostF at hsn2
          generalize rcR zs = D at hcall hsn2 hsq
          generalize rcOk zs = ok at hcall hsn2 hsq
          obtain ⟨kind, sq, body⟩ := D
          unfold recC at hcall
          dsimp only at hcall hsn2 hsq
          obtain ⟨nb, hnb⟩ : ∃ m, body.length = m := ⟨_, rfl⟩
          rw [hnb] at hcall
          have HSN2 : Hid _ := hsn2
          have hsiz := hBq.out.size
          clear hpq hc2 hrz hbz hcz htz htp hsn2 hzs hpa hpc hn3 hnb hmq y0 hBW
          go_wp2_with fail
          refine hcall.mono ?_
          rintro e w1 ⟨⟨a1, c1, rfl, _, _⟩, hb1⟩
          have v1 := (Blk.new w1 46 #[.int .i64 kind, .int .i64 sq, .slice a1 nb c1]).cell 1
          simp at v1
          have hB' : Hid (Below wk.heap.size wk (w1.alloc (.cells #[.int .i64 kind, .int .i64 sq, .slice a1 nb c1] 46))) := (hBq.out.trans (hb1.mono hsiz)).alloc (Nat.le_trans hsiz hb1.size) _
          clear hcall hb1 hBq
          cases ok
          · have HN : Hid (mostL (L ++ ((ps.take (q + 1)).map PgR.D).map PgD.zs) = u) := by show _ = _; rw [HSN2.out, if_neg (fun h => by simp at h)]
            clear HSN2 hsq
            go_wp2
            go_roundw
            case rel => exact ⟨q + 1, u, by omega, by go_num, rfl, hu0, hu1, HN, hB'⟩
            case measure => simp [intOf]; omega
          · have hsq2 := hsq rfl
            by_cases hge : u ≤ sq
            · have HN : Hid (mostL (L ++ ((ps.take (q + 1)).map PgR.D).map PgD.zs) = sq + 1) := by show _ = _; rw [HSN2.out, if_pos ⟨rfl, hge⟩]
              clear HSN2 hsq
              go_wp2
              go_roundw
              case rel => exact ⟨q + 1, sq + 1, by omega, by go_num, by go_num, by omega, by omega, HN, hB'⟩
              case measure => simp [intOf]; omega
            · have hge2 : ¬ (sq ≥ u) := hge
              have HN : Hid (mostL (L ++ ((ps.take (q + 1)).map PgR.D).map PgD.zs) = u) := by show _ = _; rw [HSN2.out, if_neg (fun h => hge h.2)]
              clear HSN2 hsq
              go_wp2
              go_roundw
              case rel => exact ⟨q + 1, u, by omega, by go_num, rfl, hu0, hu1, HN, hB'⟩
              case measure => simp [intOf]; omega
        · have hqi : ¬ (q : Int) < (n1 : Int) := by omega
          have HN : Hid (mostL (pgsL ((bs.take (k + 1)).map BkR.D)) = u) := by
            show _ = _
            rw [HSN.out, ← hmq.out, List.take_of_length_le (by rw [HPN.out]; omega)]
          have hB' : Hid (Below W0.heap.size W0 wr) := hBW
          clear hmq hBW
          go_wp2
          go_roundw
          case rel => exact ⟨k + 1, u, by omega, by go_num, rfl, hu0, hu1, HN, hB'⟩
          case measure => simp [intOf]; omega
    · have hki : ¬ (k : Int) < (n : Int) := by omega
      go_wp2
      go_ret
      have := hm.out
      rw [List.take_of_length_le (by rw [hln.out]; omega)] at this
      rw [← hH]
      exact ⟨by rw [this]; rfl, HB.out.trans (hB.out.mono HB.out.size)⟩
theorem Blk.logO {W : World} {H : Nat} {t : TypeId} {v0 v1 v2 v3 v4 : Value} (h : Blk W H t #[v0, v1, v2, v3, v4]) : W.cell? ⟨H, 0, none⟩ = some v0 ∧ W.cell? ⟨H, 1, none⟩ = some v1 ∧ W.cell? ⟨H, 2, none⟩ = some v2 ∧ W.cell? ⟨H, 3, none⟩ = some v3 ∧ W.cell? ⟨H, 4, none⟩ = some v4 := ⟨h.cell 0, h.cell 1, h.cell 2, h.cell 3, h.cell 4⟩
set_option maxRecDepth 100000 in
set_option maxHeartbeats 8000000 in
theorem logOkS (a : Option Addr) (n cap : Nat) (bs : List BkR) (ops : Int) (fa : Option Addr) (m fc : Nat) (fs : List FtD) (down : Bool) (seq : Int) (w : World) (ht : CR w a n bs) (hf : FR w fa m fs) (hby : BytC (bs.map BkR.D)) (hcp : CapB bs) :
    Calls Try.prog 18 #[.agg #[.slice a n cap, .int .i64 ops, .slice fa m fc, .bool down, .int .i64 seq]] w fun e w' => e = .returned (.bool (lgB (bs.map BkR.D) ops fs seq)) ∧ Below w.heap.size w w' := by
  have B0 : Below w.heap.size w (w.alloc (.cells #[.slice a n cap, .int .i64 ops, .slice fa m fc, .bool down, .int .i64 seq] 31)) := (Below.refl _ w).alloc (Nat.le_refl _) _
  have z0 := Blk.new w 31 #[.slice a n cap, .int .i64 ops, .slice fa m fc, .bool down, .int .i64 seq]
  obtain ⟨W0, hW0⟩ : ∃ W, (w.alloc (.cells #[.slice a n cap, .int .i64 ops, .slice fa m fc, .bool down, .int .i64 seq] 31)) = W := ⟨_, rfl⟩
  rw [hW0] at B0 z0
  have c1 := fun (W : World) (h : Below W0.heap.size W0 W) => devOkS a n cap bs ops fa m fc fs down W ((ht.keep B0).keep h) ((hf.keep B0).keep h)
  have c2 := fun (W : World) (h : Below W0.heap.size W0 W) => mostS a n cap bs W ((ht.keep B0).keep h) hby hcp
  unfold lgB
  generalize devB (bs.map BkR.D) ops fs = d at c1 ⊢
  generalize mostL (pgsL (bs.map BkR.D)) = u at c2 ⊢
  have HB : Hid _ := B0
  have C1 : Hid _ := c1
  have C2 : Hid _ := c2
  obtain ⟨H, hH⟩ : ∃ H, w.heap.size = H := ⟨_, rfl⟩
  rw [hH] at z0
  clear ht hf hby hcp B0 c1 c2
  have z0d := z0.keep (Below.refl W0.heap.size W0).drew
  have B0d : Below W0.heap.size W0 W0.drew := (Below.refl W0.heap.size W0).drew
  obtain ⟨q0, q1, q2, q3, q4⟩ := z0d.log
  have Z0 : Hid (Blk W0.drew H 31 #[.slice a n cap, .int .i64 ops, .slice fa m fc, .bool down, .int .i64 seq]) := z0d
  have c3 : ∀ W : World, Calls Try.prog 37 #[.int .i64 seq, .int .i64 0, .int .i64 1000000] W fun e w' => e = .returned (.bool (decide (0 ≤ seq) && decide (seq ≤ 1000000))) ∧ w' = W := fun W => l1In_any seq 0 1000000 W
  generalize (decide (0 ≤ seq) && decide (seq ≤ 1000000)) = q at c3 ⊢
  clear z0 z0d
  go_enter Try.func18, Try.ntmps18
  go_upto_region 1 with fail
  try rw [hW0]
  try rw [hH]
  clear hW0
  cases d
  · skip
    refine wp_region_noPanic ?_
    refine wp_region_held_drew (S := fun W : World => W.cell? ⟨H, 0, none⟩ = some (.slice a n cap) ∧ W.cell? ⟨H, 1, none⟩ = some (.int .i64 ops) ∧ W.cell? ⟨H, 2, none⟩ = some (.slice fa m fc) ∧ W.cell? ⟨H, 3, none⟩ = some (.bool down) ∧ W.cell? ⟨H, 4, none⟩ = some (.int .i64 seq)) (by kernel_rfl) (by go_keep) (fun hS => ?_)
    refine wpAnyH_take (i := 0) (v := ?gv1) rfl (by kernel_rfl) (by kernel_rfl) (by kernel_rfl) (fun _ _ _ h => h) (Or.inl ⟨by kernel_rfl, ?gy1⟩) (by assumption) ?gr1
    case gy1 => (intro w' hSw; (try dsimp only at hSw); go_simp; (try with_reducible rfl))
    try simp only [Act.put, List.setIfInBounds_toArray, List.set_cons_zero, List.set_cons_succ, List.getElem_toArray, List.getElem_cons_zero]
    refine wpAnyH_take (i := 1) (v := ?gv2) rfl (by kernel_rfl) (by kernel_rfl) (by kernel_rfl) (fun _ _ _ h => h) (Or.inl ⟨by kernel_rfl, ?gy2⟩) (by assumption) ?gr2
    case gy2 => (intro w' hSw; (try dsimp only at hSw); go_simp; (try with_reducible rfl))
    try simp only [Act.put, List.setIfInBounds_toArray, List.set_cons_zero, List.set_cons_succ, List.getElem_toArray, List.getElem_cons_succ, List.getElem_cons_zero]
    refine wpAnyH_ready (rs := [2]) (by kernel_rfl) (by simp) ?_
    refine AllReadyH.cons rfl (fun K hK => ?_) AllReadyH.nil
    go_simp
    (with_reducible refine (C1.out _ B0d).mono ?_)
    rintro e u1 ⟨rfl, b1⟩
    have Z1 : Hid (Blk u1 H 31 #[.slice a n cap, .int .i64 ops, .slice fa m fc, .bool down, .int .i64 seq]) := Z0.out.keep b1
    clear hS
    dsimp only
    refine Shut.out hK _ _ (Z1.out.log) (fun hS => ?_)
    try simp only [Act.put, List.setIfInBounds_toArray, List.set_cons_zero, List.set_cons_succ, List.getElem_toArray, List.getElem_cons_succ, List.getElem_cons_zero]
    refine wpAnyH_take (i := 3) (v := ?gv3) rfl (by kernel_rfl) (by kernel_rfl) (by kernel_rfl) (fun _ _ _ h => h) (Or.inl ⟨by kernel_rfl, ?gy3⟩) (by assumption) ?gr3
    case gy3 => (intro w' hSw; (try dsimp only at hSw); go_simp; (try with_reducible rfl))
    try simp only [Act.put, List.setIfInBounds_toArray, List.set_cons_zero, List.set_cons_succ, List.getElem_toArray, List.getElem_cons_succ, List.getElem_cons_zero]
    refine wpAnyH_take (i := 4) (v := undef) rfl (by kernel_rfl) (by kernel_rfl) (by kernel_rfl) (fun _ _ _ h => h) (Or.inr ⟨by kernel_rfl, rfl⟩) (by assumption) ?_
    try simp only [Act.put, List.setIfInBounds_toArray, List.set_cons_zero, List.set_cons_succ, List.getElem_toArray, List.getElem_cons_succ, List.getElem_cons_zero]
    refine wpAnyH_take (i := 5) (v := undef) rfl (by kernel_rfl) (by kernel_rfl) (by kernel_rfl) (fun _ _ _ h => h) (Or.inr ⟨by kernel_rfl, rfl⟩) (by assumption) ?_
    try simp only [Act.put, List.setIfInBounds_toArray, List.set_cons_zero, List.set_cons_succ, List.getElem_toArray, List.getElem_cons_succ, List.getElem_cons_zero]
    refine wpAnyH_take (i := 6) (v := undef) rfl (by kernel_rfl) (by kernel_rfl) (by kernel_rfl) (fun _ _ _ h => h) (Or.inr ⟨by kernel_rfl, rfl⟩) (by assumption) ?_
    try simp only [Act.put, List.setIfInBounds_toArray, List.set_cons_zero, List.set_cons_succ, List.getElem_toArray, List.getElem_cons_succ, List.getElem_cons_zero]
    refine wpAnyH_take (i := 7) (v := ?gv4) rfl (by kernel_rfl) (by kernel_rfl) (by kernel_rfl) (fun _ _ _ h => h) (Or.inl ⟨by kernel_rfl, ?gy4⟩) (by assumption) ?gr4
    case gy4 => (intro w' hSw; (try dsimp only at hSw); go_simp; (try with_reducible rfl))
    try simp only [Act.put, List.setIfInBounds_toArray, List.set_cons_zero, List.set_cons_succ, List.getElem_toArray, List.getElem_cons_succ, List.getElem_cons_zero]
    refine wpAnyH_take (i := 8) (v := ?gv5) rfl (by kernel_rfl) (by kernel_rfl) (by kernel_rfl) (fun _ _ _ h => h) (Or.inl ⟨by kernel_rfl, ?gy5⟩) (by assumption) ?gr5
    case gy5 => (intro w' hSw; (try dsimp only at hSw); go_simp; (try with_reducible rfl))
    try simp only [Act.put, List.setIfInBounds_toArray, List.set_cons_zero, List.set_cons_succ, List.getElem_toArray, List.getElem_cons_succ, List.getElem_cons_zero]
    refine wpAnyH_take (i := 9) (v := undef) rfl (by kernel_rfl) (by kernel_rfl) (by kernel_rfl) (fun _ _ _ h => h) (Or.inr ⟨by kernel_rfl, rfl⟩) (by assumption) ?_
    try simp only [Act.put, List.setIfInBounds_toArray, List.set_cons_zero, List.set_cons_succ, List.getElem_toArray, List.getElem_cons_succ, List.getElem_cons_zero]
    refine wpAnyH_take (i := 10) (v := undef) rfl (by kernel_rfl) (by kernel_rfl) (by kernel_rfl) (fun _ _ _ h => h) (Or.inr ⟨by kernel_rfl, rfl⟩) (by assumption) ?_
    try simp only [Act.put, List.setIfInBounds_toArray, List.set_cons_zero, List.set_cons_succ, List.getElem_toArray, List.getElem_cons_succ, List.getElem_cons_zero]
    refine wpAnyH_take (i := 11) (v := undef) rfl (by kernel_rfl) (by kernel_rfl) (by kernel_rfl) (fun _ _ _ h => h) (Or.inr ⟨by kernel_rfl, rfl⟩) (by assumption) ?_
    try simp only [Act.put, List.setIfInBounds_toArray, List.set_cons_zero, List.set_cons_succ, List.getElem_toArray, List.getElem_cons_succ, List.getElem_cons_zero]
    refine wpAnyH_take (i := 12) (v := undef) rfl (by kernel_rfl) (by kernel_rfl) (by kernel_rfl) (fun _ _ _ h => h) (Or.inr ⟨by kernel_rfl, rfl⟩) (by assumption) ?_
    try simp only [Act.put, List.setIfInBounds_toArray, List.set_cons_zero, List.set_cons_succ, List.getElem_toArray, List.getElem_cons_succ, List.getElem_cons_zero]
    refine wpAnyH_take (i := 13) (v := undef) rfl (by kernel_rfl) (by kernel_rfl) (by kernel_rfl) (fun _ _ _ h => h) (Or.inr ⟨by kernel_rfl, rfl⟩) (by assumption) ?_
    try simp only [Act.put, List.setIfInBounds_toArray, List.set_cons_zero, List.set_cons_succ, List.getElem_toArray, List.getElem_cons_succ, List.getElem_cons_zero]
    refine wpAnyH_take (i := 14) (v := undef) rfl (by kernel_rfl) (by kernel_rfl) (by kernel_rfl) (fun _ _ _ h => h) (Or.inr ⟨by kernel_rfl, rfl⟩) (by assumption) ?_
    try simp only [Act.put, List.setIfInBounds_toArray, List.set_cons_zero, List.set_cons_succ, List.getElem_toArray, List.getElem_cons_succ, List.getElem_cons_zero]
    refine wpAnyH_take (i := 15) (v := undef) rfl (by kernel_rfl) (by kernel_rfl) (by kernel_rfl) (fun _ _ _ h => h) (Or.inr ⟨by kernel_rfl, rfl⟩) (by assumption) ?_
    try simp only [Act.put, List.setIfInBounds_toArray, List.set_cons_zero, List.set_cons_succ, List.getElem_toArray, List.getElem_cons_succ, List.getElem_cons_zero]
    refine wpAnyH_take (i := 16) (v := ?gv6) rfl (by kernel_rfl) (by kernel_rfl) (by kernel_rfl) (fun _ _ _ h => h) (Or.inl ⟨by kernel_rfl, ?gy6⟩) (by assumption) ?gr6
    case gy6 => (intro w' hSw; (try dsimp only at hSw); go_simp; (try with_reducible rfl))
    try simp only [Act.put, List.setIfInBounds_toArray, List.set_cons_zero, List.set_cons_succ, List.getElem_toArray, List.getElem_cons_succ, List.getElem_cons_zero]
    refine wpAnyH_take (i := 17) (v := ?gv7) rfl (by kernel_rfl) (by kernel_rfl) (by kernel_rfl) (fun _ _ _ h => h) (Or.inl ⟨by kernel_rfl, ?gy7⟩) (by assumption) ?gr7
    case gy7 => (intro w' hSw; (try dsimp only at hSw); go_simp; (try with_reducible rfl))
    try simp only [Act.put, List.setIfInBounds_toArray, List.set_cons_zero, List.set_cons_succ, List.getElem_toArray, List.getElem_cons_succ, List.getElem_cons_zero]
    refine wpAnyH_done (by kernel_rfl) (NoPanic.normal ?_) _
    go_wp2
    go_ret
    rw [← hH]
    exact ⟨rfl, HB.out.trans ((B0d.trans (b1.mono B0d.size)).mono HB.out.size)⟩
  cases q
  · skip
    refine wp_region_noPanic ?_
    refine wp_region_held_drew (S := fun W : World => W.cell? ⟨H, 0, none⟩ = some (.slice a n cap) ∧ W.cell? ⟨H, 1, none⟩ = some (.int .i64 ops) ∧ W.cell? ⟨H, 2, none⟩ = some (.slice fa m fc) ∧ W.cell? ⟨H, 3, none⟩ = some (.bool down) ∧ W.cell? ⟨H, 4, none⟩ = some (.int .i64 seq)) (by kernel_rfl) (by go_keep) (fun hS => ?_)
    refine wpAnyH_take (i := 0) (v := ?gv8) rfl (by kernel_rfl) (by kernel_rfl) (by kernel_rfl) (fun _ _ _ h => h) (Or.inl ⟨by kernel_rfl, ?gy8⟩) (by assumption) ?gr8
    case gy8 => (intro w' hSw; (try dsimp only at hSw); go_simp; (try with_reducible rfl))
    try simp only [Act.put, List.setIfInBounds_toArray, List.set_cons_zero, List.set_cons_succ, List.getElem_toArray, List.getElem_cons_zero]
    refine wpAnyH_take (i := 1) (v := ?gv9) rfl (by kernel_rfl) (by kernel_rfl) (by kernel_rfl) (fun _ _ _ h => h) (Or.inl ⟨by kernel_rfl, ?gy9⟩) (by assumption) ?gr9
    case gy9 => (intro w' hSw; (try dsimp only at hSw); go_simp; (try with_reducible rfl))
    try simp only [Act.put, List.setIfInBounds_toArray, List.set_cons_zero, List.set_cons_succ, List.getElem_toArray, List.getElem_cons_succ, List.getElem_cons_zero]
    refine wpAnyH_ready (rs := [2]) (by kernel_rfl) (by simp) ?_
    refine AllReadyH.cons rfl (fun K hK => ?_) AllReadyH.nil
    go_simp
    (with_reducible refine (C1.out _ B0d).mono ?_)
    rintro e u1 ⟨rfl, b1⟩
    have Z1 : Hid (Blk u1 H 31 #[.slice a n cap, .int .i64 ops, .slice fa m fc, .bool down, .int .i64 seq]) := Z0.out.keep b1
    clear hS
    dsimp only
    refine Shut.out hK _ _ (Z1.out.log) (fun hS => ?_)
    try simp only [Act.put, List.setIfInBounds_toArray, List.set_cons_zero, List.set_cons_succ, List.getElem_toArray, List.getElem_cons_succ, List.getElem_cons_zero]
    refine wpAnyH_take (i := 3) (v := ?gv10) rfl (by kernel_rfl) (by kernel_rfl) (by kernel_rfl) (fun _ _ _ h => h) (Or.inl ⟨by kernel_rfl, ?gy10⟩) (by assumption) ?gr10
    case gy10 => (intro w' hSw; (try dsimp only at hSw); go_simp; (try with_reducible rfl))
    try simp only [Act.put, List.setIfInBounds_toArray, List.set_cons_zero, List.set_cons_succ, List.getElem_toArray, List.getElem_cons_succ, List.getElem_cons_zero]
    refine wpAnyH_take (i := 4) (v := ?gv11) rfl (by kernel_rfl) (by kernel_rfl) (by kernel_rfl) (fun _ _ _ h => h) (Or.inl ⟨by kernel_rfl, ?gy11⟩) (by assumption) ?gr11
    case gy11 => (intro w' hSw; (try dsimp only at hSw); go_simp; (try with_reducible rfl))
    try simp only [Act.put, List.setIfInBounds_toArray, List.set_cons_zero, List.set_cons_succ, List.getElem_toArray, List.getElem_cons_succ, List.getElem_cons_zero]
    refine wpAnyH_take (i := 5) (v := ?gv12) rfl (by kernel_rfl) (by kernel_rfl) (by kernel_rfl) (fun _ _ _ h => h) (Or.inl ⟨by kernel_rfl, ?gy12⟩) (by assumption) ?gr12
    case gy12 => (intro w' hSw; (try dsimp only at hSw); go_simp; (try with_reducible rfl))
    try simp only [Act.put, List.setIfInBounds_toArray, List.set_cons_zero, List.set_cons_succ, List.getElem_toArray, List.getElem_cons_succ, List.getElem_cons_zero]
    refine wpAnyH_ready (rs := [6]) (by kernel_rfl) (by simp) ?_
    refine AllReadyH.cons rfl (fun K hK => ?_) AllReadyH.nil
    go_simp
    (with_reducible refine (c3 _).mono ?_)
    rintro e u6 ⟨rfl, hu6⟩
    subst hu6
    clear hS
    dsimp only
    refine Shut.out hK _ _ (Z1.out.log) (fun hS => ?_)
    try simp only [Act.put, List.setIfInBounds_toArray, List.set_cons_zero, List.set_cons_succ, List.getElem_toArray, List.getElem_cons_succ, List.getElem_cons_zero]
    refine wpAnyH_take (i := 7) (v := ?gv13) rfl (by kernel_rfl) (by kernel_rfl) (by kernel_rfl) (fun _ _ _ h => h) (Or.inl ⟨by kernel_rfl, ?gy13⟩) (by assumption) ?gr13
    case gy13 => (intro w' hSw; (try dsimp only at hSw); go_simp; (try with_reducible rfl))
    try simp only [Act.put, List.setIfInBounds_toArray, List.set_cons_zero, List.set_cons_succ, List.getElem_toArray, List.getElem_cons_succ, List.getElem_cons_zero]
    refine wpAnyH_take (i := 8) (v := ?gv14) rfl (by kernel_rfl) (by kernel_rfl) (by kernel_rfl) (fun _ _ _ h => h) (Or.inl ⟨by kernel_rfl, ?gy14⟩) (by assumption) ?gr14
    case gy14 => (intro w' hSw; (try dsimp only at hSw); go_simp; (try with_reducible rfl))
    try simp only [Act.put, List.setIfInBounds_toArray, List.set_cons_zero, List.set_cons_succ, List.getElem_toArray, List.getElem_cons_succ, List.getElem_cons_zero]
    refine wpAnyH_take (i := 9) (v := undef) rfl (by kernel_rfl) (by kernel_rfl) (by kernel_rfl) (fun _ _ _ h => h) (Or.inr ⟨by kernel_rfl, rfl⟩) (by assumption) ?_
    try simp only [Act.put, List.setIfInBounds_toArray, List.set_cons_zero, List.set_cons_succ, List.getElem_toArray, List.getElem_cons_succ, List.getElem_cons_zero]
    refine wpAnyH_take (i := 10) (v := undef) rfl (by kernel_rfl) (by kernel_rfl) (by kernel_rfl) (fun _ _ _ h => h) (Or.inr ⟨by kernel_rfl, rfl⟩) (by assumption) ?_
    try simp only [Act.put, List.setIfInBounds_toArray, List.set_cons_zero, List.set_cons_succ, List.getElem_toArray, List.getElem_cons_succ, List.getElem_cons_zero]
    refine wpAnyH_take (i := 11) (v := undef) rfl (by kernel_rfl) (by kernel_rfl) (by kernel_rfl) (fun _ _ _ h => h) (Or.inr ⟨by kernel_rfl, rfl⟩) (by assumption) ?_
    try simp only [Act.put, List.setIfInBounds_toArray, List.set_cons_zero, List.set_cons_succ, List.getElem_toArray, List.getElem_cons_succ, List.getElem_cons_zero]
    refine wpAnyH_take (i := 12) (v := undef) rfl (by kernel_rfl) (by kernel_rfl) (by kernel_rfl) (fun _ _ _ h => h) (Or.inr ⟨by kernel_rfl, rfl⟩) (by assumption) ?_
    try simp only [Act.put, List.setIfInBounds_toArray, List.set_cons_zero, List.set_cons_succ, List.getElem_toArray, List.getElem_cons_succ, List.getElem_cons_zero]
    refine wpAnyH_take (i := 13) (v := undef) rfl (by kernel_rfl) (by kernel_rfl) (by kernel_rfl) (fun _ _ _ h => h) (Or.inr ⟨by kernel_rfl, rfl⟩) (by assumption) ?_
    try simp only [Act.put, List.setIfInBounds_toArray, List.set_cons_zero, List.set_cons_succ, List.getElem_toArray, List.getElem_cons_succ, List.getElem_cons_zero]
    refine wpAnyH_take (i := 14) (v := undef) rfl (by kernel_rfl) (by kernel_rfl) (by kernel_rfl) (fun _ _ _ h => h) (Or.inr ⟨by kernel_rfl, rfl⟩) (by assumption) ?_
    try simp only [Act.put, List.setIfInBounds_toArray, List.set_cons_zero, List.set_cons_succ, List.getElem_toArray, List.getElem_cons_succ, List.getElem_cons_zero]
    refine wpAnyH_take (i := 15) (v := undef) rfl (by kernel_rfl) (by kernel_rfl) (by kernel_rfl) (fun _ _ _ h => h) (Or.inr ⟨by kernel_rfl, rfl⟩) (by assumption) ?_
    try simp only [Act.put, List.setIfInBounds_toArray, List.set_cons_zero, List.set_cons_succ, List.getElem_toArray, List.getElem_cons_succ, List.getElem_cons_zero]
    refine wpAnyH_take (i := 16) (v := ?gv15) rfl (by kernel_rfl) (by kernel_rfl) (by kernel_rfl) (fun _ _ _ h => h) (Or.inl ⟨by kernel_rfl, ?gy15⟩) (by assumption) ?gr15
    case gy15 => (intro w' hSw; (try dsimp only at hSw); go_simp; (try with_reducible rfl))
    try simp only [Act.put, List.setIfInBounds_toArray, List.set_cons_zero, List.set_cons_succ, List.getElem_toArray, List.getElem_cons_succ, List.getElem_cons_zero]
    refine wpAnyH_take (i := 17) (v := ?gv16) rfl (by kernel_rfl) (by kernel_rfl) (by kernel_rfl) (fun _ _ _ h => h) (Or.inl ⟨by kernel_rfl, ?gy16⟩) (by assumption) ?gr16
    case gy16 => (intro w' hSw; (try dsimp only at hSw); go_simp; (try with_reducible rfl))
    try simp only [Act.put, List.setIfInBounds_toArray, List.set_cons_zero, List.set_cons_succ, List.getElem_toArray, List.getElem_cons_succ, List.getElem_cons_zero]
    refine wpAnyH_done (by kernel_rfl) (NoPanic.normal ?_) _
    go_wp2
    go_ret
    rw [← hH]
    exact ⟨rfl, HB.out.trans ((B0d.trans (b1.mono B0d.size)).mono HB.out.size)⟩
  · by_cases hu : u ≤ seq
    · have hge : seq ≥ u := hu
      refine wp_region_noPanic ?_
      refine wp_region_held_drew (S := fun W : World => W.cell? ⟨H, 0, none⟩ = some (.slice a n cap) ∧ W.cell? ⟨H, 1, none⟩ = some (.int .i64 ops) ∧ W.cell? ⟨H, 2, none⟩ = some (.slice fa m fc) ∧ W.cell? ⟨H, 3, none⟩ = some (.bool down) ∧ W.cell? ⟨H, 4, none⟩ = some (.int .i64 seq)) (by kernel_rfl) (by go_keep) (fun hS => ?_)
      refine wpAnyH_take (i := 0) (v := ?gv17) rfl (by kernel_rfl) (by kernel_rfl) (by kernel_rfl) (fun _ _ _ h => h) (Or.inl ⟨by kernel_rfl, ?gy17⟩) (by assumption) ?gr17
      case gy17 => (intro w' hSw; (try dsimp only at hSw); go_simp; (try with_reducible rfl))
      try simp only [Act.put, List.setIfInBounds_toArray, List.set_cons_zero, List.set_cons_succ, List.getElem_toArray, List.getElem_cons_zero]
      refine wpAnyH_take (i := 1) (v := ?gv18) rfl (by kernel_rfl) (by kernel_rfl) (by kernel_rfl) (fun _ _ _ h => h) (Or.inl ⟨by kernel_rfl, ?gy18⟩) (by assumption) ?gr18
      case gy18 => (intro w' hSw; (try dsimp only at hSw); go_simp; (try with_reducible rfl))
      try simp only [Act.put, List.setIfInBounds_toArray, List.set_cons_zero, List.set_cons_succ, List.getElem_toArray, List.getElem_cons_succ, List.getElem_cons_zero]
      refine wpAnyH_ready (rs := [2]) (by kernel_rfl) (by simp) ?_
      refine AllReadyH.cons rfl (fun K hK => ?_) AllReadyH.nil
      go_simp
      (with_reducible refine (C1.out _ B0d).mono ?_)
      rintro e u1 ⟨rfl, b1⟩
      have Z1 : Hid (Blk u1 H 31 #[.slice a n cap, .int .i64 ops, .slice fa m fc, .bool down, .int .i64 seq]) := Z0.out.keep b1
      clear hS
      dsimp only
      refine Shut.out hK _ _ (Z1.out.log) (fun hS => ?_)
      try simp only [Act.put, List.setIfInBounds_toArray, List.set_cons_zero, List.set_cons_succ, List.getElem_toArray, List.getElem_cons_succ, List.getElem_cons_zero]
      refine wpAnyH_take (i := 3) (v := ?gv19) rfl (by kernel_rfl) (by kernel_rfl) (by kernel_rfl) (fun _ _ _ h => h) (Or.inl ⟨by kernel_rfl, ?gy19⟩) (by assumption) ?gr19
      case gy19 => (intro w' hSw; (try dsimp only at hSw); go_simp; (try with_reducible rfl))
      try simp only [Act.put, List.setIfInBounds_toArray, List.set_cons_zero, List.set_cons_succ, List.getElem_toArray, List.getElem_cons_succ, List.getElem_cons_zero]
      refine wpAnyH_take (i := 4) (v := ?gv20) rfl (by kernel_rfl) (by kernel_rfl) (by kernel_rfl) (fun _ _ _ h => h) (Or.inl ⟨by kernel_rfl, ?gy20⟩) (by assumption) ?gr20
      case gy20 => (intro w' hSw; (try dsimp only at hSw); go_simp; (try with_reducible rfl))
      try simp only [Act.put, List.setIfInBounds_toArray, List.set_cons_zero, List.set_cons_succ, List.getElem_toArray, List.getElem_cons_succ, List.getElem_cons_zero]
      refine wpAnyH_take (i := 5) (v := ?gv21) rfl (by kernel_rfl) (by kernel_rfl) (by kernel_rfl) (fun _ _ _ h => h) (Or.inl ⟨by kernel_rfl, ?gy21⟩) (by assumption) ?gr21
      case gy21 => (intro w' hSw; (try dsimp only at hSw); go_simp; (try with_reducible rfl))
      try simp only [Act.put, List.setIfInBounds_toArray, List.set_cons_zero, List.set_cons_succ, List.getElem_toArray, List.getElem_cons_succ, List.getElem_cons_zero]
      refine wpAnyH_ready (rs := [6]) (by kernel_rfl) (by simp) ?_
      refine AllReadyH.cons rfl (fun K hK => ?_) AllReadyH.nil
      go_simp
      (with_reducible refine (c3 _).mono ?_)
      rintro e u6 ⟨rfl, hu6⟩
      subst hu6
      clear hS
      dsimp only
      refine Shut.out hK _ _ (Z1.out.log) (fun hS => ?_)
      try simp only [Act.put, List.setIfInBounds_toArray, List.set_cons_zero, List.set_cons_succ, List.getElem_toArray, List.getElem_cons_succ, List.getElem_cons_zero]
      refine wpAnyH_take (i := 7) (v := ?gv22) rfl (by kernel_rfl) (by kernel_rfl) (by kernel_rfl) (fun _ _ _ h => h) (Or.inl ⟨by kernel_rfl, ?gy22⟩) (by assumption) ?gr22
      case gy22 => (intro w' hSw; (try dsimp only at hSw); go_simp; (try with_reducible rfl))
      try simp only [Act.put, List.setIfInBounds_toArray, List.set_cons_zero, List.set_cons_succ, List.getElem_toArray, List.getElem_cons_succ, List.getElem_cons_zero]
      refine wpAnyH_take (i := 8) (v := ?gv23) rfl (by kernel_rfl) (by kernel_rfl) (by kernel_rfl) (fun _ _ _ h => h) (Or.inl ⟨by kernel_rfl, ?gy23⟩) (by assumption) ?gr23
      case gy23 => (intro w' hSw; (try dsimp only at hSw); go_simp; (try with_reducible rfl))
      try simp only [Act.put, List.setIfInBounds_toArray, List.set_cons_zero, List.set_cons_succ, List.getElem_toArray, List.getElem_cons_succ, List.getElem_cons_zero]
      refine wpAnyH_take (i := 9) (v := ?gv24) rfl (by kernel_rfl) (by kernel_rfl) (by kernel_rfl) (fun _ _ _ h => h) (Or.inl ⟨by kernel_rfl, ?gy24⟩) (by assumption) ?gr24
      case gy24 => (intro w' hSw; (try dsimp only at hSw); go_simp; (try with_reducible rfl))
      try simp only [Act.put, List.setIfInBounds_toArray, List.set_cons_zero, List.set_cons_succ, List.getElem_toArray, List.getElem_cons_succ, List.getElem_cons_zero]
      refine wpAnyH_take (i := 10) (v := ?gv25) rfl (by kernel_rfl) (by kernel_rfl) (by kernel_rfl) (fun _ _ _ h => h) (Or.inl ⟨by kernel_rfl, ?gy25⟩) (by assumption) ?gr25
      case gy25 => (intro w' hSw; (try dsimp only at hSw); go_simp; (try with_reducible rfl))
      try simp only [Act.put, List.setIfInBounds_toArray, List.set_cons_zero, List.set_cons_succ, List.getElem_toArray, List.getElem_cons_succ, List.getElem_cons_zero]
      refine wpAnyH_take (i := 11) (v := ?gv26) rfl (by kernel_rfl) (by kernel_rfl) (by kernel_rfl) (fun _ _ _ h => h) (Or.inl ⟨by kernel_rfl, ?gy26⟩) (by assumption) ?gr26
      case gy26 => (intro w' hSw; (try dsimp only at hSw); go_simp; (try with_reducible rfl))
      try simp only [Act.put, List.setIfInBounds_toArray, List.set_cons_zero, List.set_cons_succ, List.getElem_toArray, List.getElem_cons_succ, List.getElem_cons_zero]
      refine wpAnyH_take (i := 12) (v := ?gv27) rfl (by kernel_rfl) (by kernel_rfl) (by kernel_rfl) (fun _ _ _ h => h) (Or.inl ⟨by kernel_rfl, ?gy27⟩) (by assumption) ?gr27
      case gy27 => (intro w' hSw; (try dsimp only at hSw); go_simp; (try with_reducible rfl))
      try simp only [Act.put, List.setIfInBounds_toArray, List.set_cons_zero, List.set_cons_succ, List.getElem_toArray, List.getElem_cons_succ, List.getElem_cons_zero]
      refine wpAnyH_take (i := 13) (v := ?gv28) rfl (by kernel_rfl) (by kernel_rfl) (by kernel_rfl) (fun _ _ _ h => h) (Or.inl ⟨by kernel_rfl, ?gy28⟩) (by assumption) ?gr28
      case gy28 => (intro w' hSw; (try dsimp only at hSw); go_simp; (try with_reducible rfl))
      try simp only [Act.put, List.setIfInBounds_toArray, List.set_cons_zero, List.set_cons_succ, List.getElem_toArray, List.getElem_cons_succ, List.getElem_cons_zero]
      refine wpAnyH_ready (rs := [14]) (by kernel_rfl) (by simp) ?_
      refine AllReadyH.cons rfl (fun K hK => ?_) AllReadyH.nil
      go_simp
      (with_reducible refine (C2.out _ (B0d.trans (b1.mono B0d.size))).mono ?_)
      rintro e u2 ⟨rfl, b2⟩
      clear hS
      dsimp only
      refine Shut.out hK _ _ ((Z1.out.keep b2).log) (fun hS => ?_)
      try simp only [Act.put, List.setIfInBounds_toArray, List.set_cons_zero, List.set_cons_succ, List.getElem_toArray, List.getElem_cons_succ, List.getElem_cons_zero]
      refine wpAnyH_take (i := 15) (v := ?gv29) rfl (by kernel_rfl) (by kernel_rfl) (by kernel_rfl) (fun _ _ _ h => h) (Or.inl ⟨by kernel_rfl, ?gy29⟩) (by assumption) ?gr29
      case gy29 => (intro w' hSw; (try dsimp only at hSw); go_simp; (try with_reducible rfl))
      try simp only [Act.put, List.setIfInBounds_toArray, List.set_cons_zero, List.set_cons_succ, List.getElem_toArray, List.getElem_cons_succ, List.getElem_cons_zero]
      refine wpAnyH_take (i := 16) (v := ?gv30) rfl (by kernel_rfl) (by kernel_rfl) (by kernel_rfl) (fun _ _ _ h => h) (Or.inl ⟨by kernel_rfl, ?gy30⟩) (by assumption) ?gr30
      case gy30 => (intro w' hSw; (try dsimp only at hSw); go_simp; (try with_reducible rfl))
      try simp only [Act.put, List.setIfInBounds_toArray, List.set_cons_zero, List.set_cons_succ, List.getElem_toArray, List.getElem_cons_succ, List.getElem_cons_zero]
      refine wpAnyH_take (i := 17) (v := ?gv31) rfl (by kernel_rfl) (by kernel_rfl) (by kernel_rfl) (fun _ _ _ h => h) (Or.inl ⟨by kernel_rfl, ?gy31⟩) (by assumption) ?gr31
      case gy31 => (intro w' hSw; (try dsimp only at hSw); go_simp; (try with_reducible rfl))
      try simp only [Act.put, List.setIfInBounds_toArray, List.set_cons_zero, List.set_cons_succ, List.getElem_toArray, List.getElem_cons_succ, List.getElem_cons_zero]
      refine wpAnyH_done (by kernel_rfl) (NoPanic.normal ?_) _
      go_wp2
      go_ret
      rw [← hH]
      exact ⟨by simp [hu], HB.out.trans ((B0d.trans ((b1.trans (b2.mono b1.size)).mono B0d.size)).mono HB.out.size)⟩
    · have hge : ¬ (seq ≥ u) := hu
      refine wp_region_noPanic ?_
      refine wp_region_held_drew (S := fun W : World => W.cell? ⟨H, 0, none⟩ = some (.slice a n cap) ∧ W.cell? ⟨H, 1, none⟩ = some (.int .i64 ops) ∧ W.cell? ⟨H, 2, none⟩ = some (.slice fa m fc) ∧ W.cell? ⟨H, 3, none⟩ = some (.bool down) ∧ W.cell? ⟨H, 4, none⟩ = some (.int .i64 seq)) (by kernel_rfl) (by go_keep) (fun hS => ?_)
      refine wpAnyH_take (i := 0) (v := ?gv32) rfl (by kernel_rfl) (by kernel_rfl) (by kernel_rfl) (fun _ _ _ h => h) (Or.inl ⟨by kernel_rfl, ?gy32⟩) (by assumption) ?gr32
      case gy32 => (intro w' hSw; (try dsimp only at hSw); go_simp; (try with_reducible rfl))
      try simp only [Act.put, List.setIfInBounds_toArray, List.set_cons_zero, List.set_cons_succ, List.getElem_toArray, List.getElem_cons_zero]
      refine wpAnyH_take (i := 1) (v := ?gv33) rfl (by kernel_rfl) (by kernel_rfl) (by kernel_rfl) (fun _ _ _ h => h) (Or.inl ⟨by kernel_rfl, ?gy33⟩) (by assumption) ?gr33
      case gy33 => (intro w' hSw; (try dsimp only at hSw); go_simp; (try with_reducible rfl))
      try simp only [Act.put, List.setIfInBounds_toArray, List.set_cons_zero, List.set_cons_succ, List.getElem_toArray, List.getElem_cons_succ, List.getElem_cons_zero]
      refine wpAnyH_ready (rs := [2]) (by kernel_rfl) (by simp) ?_
      refine AllReadyH.cons rfl (fun K hK => ?_) AllReadyH.nil
      go_simp
      (with_reducible refine (C1.out _ B0d).mono ?_)
      rintro e u1 ⟨rfl, b1⟩
      have Z1 : Hid (Blk u1 H 31 #[.slice a n cap, .int .i64 ops, .slice fa m fc, .bool down, .int .i64 seq]) := Z0.out.keep b1
      clear hS
      dsimp only
      refine Shut.out hK _ _ (Z1.out.log) (fun hS => ?_)
      try simp only [Act.put, List.setIfInBounds_toArray, List.set_cons_zero, List.set_cons_succ, List.getElem_toArray, List.getElem_cons_succ, List.getElem_cons_zero]
      refine wpAnyH_take (i := 3) (v := ?gv34) rfl (by kernel_rfl) (by kernel_rfl) (by kernel_rfl) (fun _ _ _ h => h) (Or.inl ⟨by kernel_rfl, ?gy34⟩) (by assumption) ?gr34
      case gy34 => (intro w' hSw; (try dsimp only at hSw); go_simp; (try with_reducible rfl))
      try simp only [Act.put, List.setIfInBounds_toArray, List.set_cons_zero, List.set_cons_succ, List.getElem_toArray, List.getElem_cons_succ, List.getElem_cons_zero]
      refine wpAnyH_take (i := 4) (v := ?gv35) rfl (by kernel_rfl) (by kernel_rfl) (by kernel_rfl) (fun _ _ _ h => h) (Or.inl ⟨by kernel_rfl, ?gy35⟩) (by assumption) ?gr35
      case gy35 => (intro w' hSw; (try dsimp only at hSw); go_simp; (try with_reducible rfl))
      try simp only [Act.put, List.setIfInBounds_toArray, List.set_cons_zero, List.set_cons_succ, List.getElem_toArray, List.getElem_cons_succ, List.getElem_cons_zero]
      refine wpAnyH_take (i := 5) (v := ?gv36) rfl (by kernel_rfl) (by kernel_rfl) (by kernel_rfl) (fun _ _ _ h => h) (Or.inl ⟨by kernel_rfl, ?gy36⟩) (by assumption) ?gr36
      case gy36 => (intro w' hSw; (try dsimp only at hSw); go_simp; (try with_reducible rfl))
      try simp only [Act.put, List.setIfInBounds_toArray, List.set_cons_zero, List.set_cons_succ, List.getElem_toArray, List.getElem_cons_succ, List.getElem_cons_zero]
      refine wpAnyH_ready (rs := [6]) (by kernel_rfl) (by simp) ?_
      refine AllReadyH.cons rfl (fun K hK => ?_) AllReadyH.nil
      go_simp
      (with_reducible refine (c3 _).mono ?_)
      rintro e u6 ⟨rfl, hu6⟩
      subst hu6
      clear hS
      dsimp only
      refine Shut.out hK _ _ (Z1.out.log) (fun hS => ?_)
      try simp only [Act.put, List.setIfInBounds_toArray, List.set_cons_zero, List.set_cons_succ, List.getElem_toArray, List.getElem_cons_succ, List.getElem_cons_zero]
      refine wpAnyH_take (i := 7) (v := ?gv37) rfl (by kernel_rfl) (by kernel_rfl) (by kernel_rfl) (fun _ _ _ h => h) (Or.inl ⟨by kernel_rfl, ?gy37⟩) (by assumption) ?gr37
      case gy37 => (intro w' hSw; (try dsimp only at hSw); go_simp; (try with_reducible rfl))
      try simp only [Act.put, List.setIfInBounds_toArray, List.set_cons_zero, List.set_cons_succ, List.getElem_toArray, List.getElem_cons_succ, List.getElem_cons_zero]
      refine wpAnyH_take (i := 8) (v := ?gv38) rfl (by kernel_rfl) (by kernel_rfl) (by kernel_rfl) (fun _ _ _ h => h) (Or.inl ⟨by kernel_rfl, ?gy38⟩) (by assumption) ?gr38
      case gy38 => (intro w' hSw; (try dsimp only at hSw); go_simp; (try with_reducible rfl))
      try simp only [Act.put, List.setIfInBounds_toArray, List.set_cons_zero, List.set_cons_succ, List.getElem_toArray, List.getElem_cons_succ, List.getElem_cons_zero]
      refine wpAnyH_take (i := 9) (v := ?gv39) rfl (by kernel_rfl) (by kernel_rfl) (by kernel_rfl) (fun _ _ _ h => h) (Or.inl ⟨by kernel_rfl, ?gy39⟩) (by assumption) ?gr39
      case gy39 => (intro w' hSw; (try dsimp only at hSw); go_simp; (try with_reducible rfl))
      try simp only [Act.put, List.setIfInBounds_toArray, List.set_cons_zero, List.set_cons_succ, List.getElem_toArray, List.getElem_cons_succ, List.getElem_cons_zero]
      refine wpAnyH_take (i := 10) (v := ?gv40) rfl (by kernel_rfl) (by kernel_rfl) (by kernel_rfl) (fun _ _ _ h => h) (Or.inl ⟨by kernel_rfl, ?gy40⟩) (by assumption) ?gr40
      case gy40 => (intro w' hSw; (try dsimp only at hSw); go_simp; (try with_reducible rfl))
      try simp only [Act.put, List.setIfInBounds_toArray, List.set_cons_zero, List.set_cons_succ, List.getElem_toArray, List.getElem_cons_succ, List.getElem_cons_zero]
      refine wpAnyH_take (i := 11) (v := ?gv41) rfl (by kernel_rfl) (by kernel_rfl) (by kernel_rfl) (fun _ _ _ h => h) (Or.inl ⟨by kernel_rfl, ?gy41⟩) (by assumption) ?gr41
      case gy41 => (intro w' hSw; (try dsimp only at hSw); go_simp; (try with_reducible rfl))
      try simp only [Act.put, List.setIfInBounds_toArray, List.set_cons_zero, List.set_cons_succ, List.getElem_toArray, List.getElem_cons_succ, List.getElem_cons_zero]
      refine wpAnyH_take (i := 12) (v := ?gv42) rfl (by kernel_rfl) (by kernel_rfl) (by kernel_rfl) (fun _ _ _ h => h) (Or.inl ⟨by kernel_rfl, ?gy42⟩) (by assumption) ?gr42
      case gy42 => (intro w' hSw; (try dsimp only at hSw); go_simp; (try with_reducible rfl))
      try simp only [Act.put, List.setIfInBounds_toArray, List.set_cons_zero, List.set_cons_succ, List.getElem_toArray, List.getElem_cons_succ, List.getElem_cons_zero]
      refine wpAnyH_take (i := 13) (v := ?gv43) rfl (by kernel_rfl) (by kernel_rfl) (by kernel_rfl) (fun _ _ _ h => h) (Or.inl ⟨by kernel_rfl, ?gy43⟩) (by assumption) ?gr43
      case gy43 => (intro w' hSw; (try dsimp only at hSw); go_simp; (try with_reducible rfl))
      try simp only [Act.put, List.setIfInBounds_toArray, List.set_cons_zero, List.set_cons_succ, List.getElem_toArray, List.getElem_cons_succ, List.getElem_cons_zero]
      refine wpAnyH_ready (rs := [14]) (by kernel_rfl) (by simp) ?_
      refine AllReadyH.cons rfl (fun K hK => ?_) AllReadyH.nil
      go_simp
      (with_reducible refine (C2.out _ (B0d.trans (b1.mono B0d.size))).mono ?_)
      rintro e u2 ⟨rfl, b2⟩
      clear hS
      dsimp only
      refine Shut.out hK _ _ ((Z1.out.keep b2).log) (fun hS => ?_)
      try simp only [Act.put, List.setIfInBounds_toArray, List.set_cons_zero, List.set_cons_succ, List.getElem_toArray, List.getElem_cons_succ, List.getElem_cons_zero]
      refine wpAnyH_take (i := 15) (v := ?gv44) rfl (by kernel_rfl) (by kernel_rfl) (by kernel_rfl) (fun _ _ _ h => h) (Or.inl ⟨by kernel_rfl, ?gy44⟩) (by assumption) ?gr44
      case gy44 => (intro w' hSw; (try dsimp only at hSw); go_simp; (try with_reducible rfl))
      try simp only [Act.put, List.setIfInBounds_toArray, List.set_cons_zero, List.set_cons_succ, List.getElem_toArray, List.getElem_cons_succ, List.getElem_cons_zero]
      refine wpAnyH_take (i := 16) (v := ?gv45) rfl (by kernel_rfl) (by kernel_rfl) (by kernel_rfl) (fun _ _ _ h => h) (Or.inl ⟨by kernel_rfl, ?gy45⟩) (by assumption) ?gr45
      case gy45 => (intro w' hSw; (try dsimp only at hSw); go_simp; (try with_reducible rfl))
      try simp only [Act.put, List.setIfInBounds_toArray, List.set_cons_zero, List.set_cons_succ, List.getElem_toArray, List.getElem_cons_succ, List.getElem_cons_zero]
      refine wpAnyH_take (i := 17) (v := ?gv46) rfl (by kernel_rfl) (by kernel_rfl) (by kernel_rfl) (fun _ _ _ h => h) (Or.inl ⟨by kernel_rfl, ?gy46⟩) (by assumption) ?gr46
      case gy46 => (intro w' hSw; (try dsimp only at hSw); go_simp; (try with_reducible rfl))
      try simp only [Act.put, List.setIfInBounds_toArray, List.set_cons_zero, List.set_cons_succ, List.getElem_toArray, List.getElem_cons_succ, List.getElem_cons_zero]
      refine wpAnyH_done (by kernel_rfl) (NoPanic.normal ?_) _
      go_wp2
      go_ret
      rw [← hH]
      exact ⟨by simp [hu], HB.out.trans ((B0d.trans ((b1.trans (b2.mono b1.size)).mono B0d.size)).mono HB.out.size)⟩
theorem lgB_yes {ds : List BkD} {ops : Int} {fs : List FtD} {seq : Int} (hd : devB ds ops fs = true) (h0 : 0 ≤ seq) (h1 : seq ≤ 1000000) (h : ∀ k, k < 8 * ds.length → rcOk (pgA ds (k : Nat)) = true → (rcR (pgA ds (k : Nat))).seq < seq) : lgB ds ops fs seq = true := by
  have := (mostL_le (pgsL ds) seq).2 ⟨h0, (pgsL_addr (devB_ch hd) seq).2 h⟩
  unfold lgB
  simp [hd, h0, h1, this]
theorem lgB_no {ds : List BkD} {ops : Int} {fs : List FtD} {seq : Int} (hd : devB ds ops fs = true) (k : Nat) (hk : k < 8 * ds.length) (ho : rcOk (pgA ds (k : Nat)) = true) (h : seq ≤ (rcR (pgA ds (k : Nat))).seq) : lgB ds ops fs seq = false := by
  have hm : ¬ mostL (pgsL ds) ≤ seq := fun hm => by have := (pgsL_addr (devB_ch hd) seq).1 ((mostL_le (pgsL ds) seq).1 hm).2 k hk ho; omega
  unfold lgB
  rw [decide_eq_false hm, Bool.and_false]
theorem lgB_seq {ds : List BkD} {ops : Int} {fs : List FtD} {seq : Int} (h : ¬ (0 ≤ seq ∧ seq ≤ 1000000)) : lgB ds ops fs seq = false := by
  have : (decide (0 ≤ seq) && decide (seq ≤ 1000000)) = false := by
    rw [← Bool.not_eq_true]; intro h2; simp at h2; exact h h2
  unfold lgB
  rw [this, Bool.and_false, Bool.false_and]
theorem lgB_dev {ds : List BkD} {ops : Int} {fs : List FtD} {seq : Int} (h : devB ds ops fs = false) : lgB ds ops fs seq = false := by
  unfold lgB
  rw [h]; rfl
set_option maxHeartbeats 1600000 in
theorem addrAtO (x y : Int) (w : World) (hx : 0 ≤ x ∧ x ≤ 1000000) (hy : 0 ≤ y ∧ y ≤ 1000000) :
    Calls Try.prog 35 #[.int .i64 x, .int .i64 y] w fun e w' => e = .returned (.int .i64 (x * 8 + y)) ∧ w' = w := by
  obtain ⟨h1, h2⟩ := hx
  obtain ⟨h3, h4⟩ := hy
  go_enter Try.func35, Try.ntmps35
  go_wp2
  go_ret
  exact ⟨rfl, rfl⟩
set_option maxRecDepth 100000 in
set_option maxHeartbeats 8000000 in
theorem logOkI (a : Option Addr) (n cap : Nat) (bs : List BkR) (ops : Int) (fa : Option Addr) (m fc : Nat) (fs : List FtD) (down : Bool) (seq : Int) (w : World) (ht : CR w a n bs) (hf : FR w fa m fs) (hby : BytC (bs.map BkR.D)) :
    Calls Try.prog 17 #[.agg #[.slice a n cap, .int .i64 ops, .slice fa m fc, .bool down, .int .i64 seq]] w fun e w' => e = .returned (.bool (lgB (bs.map BkR.D) ops fs seq)) ∧ Below w.heap.size w w' := by
  have B0 : Below w.heap.size w (w.alloc (.cells #[.slice a n cap, .int .i64 ops, .slice fa m fc, .bool down, .int .i64 seq] 31)) := (Below.refl _ w).alloc (Nat.le_refl _) _
  have z0 := Blk.new w 31 #[.slice a n cap, .int .i64 ops, .slice fa m fc, .bool down, .int .i64 seq]
  obtain ⟨W0, hW0⟩ : ∃ W, (w.alloc (.cells #[.slice a n cap, .int .i64 ops, .slice fa m fc, .bool down, .int .i64 seq] 31)) = W := ⟨_, rfl⟩
  rw [hW0] at B0 z0
  have c1 := devOkI a n cap bs ops fa m fc fs down W0 (ht.keep B0) (hf.keep B0)
  have c2 := fun (W : World) (h : Below W0.heap.size W0 W) (x : Int) => recAtI a n cap bs x W ((ht.keep B0).keep h) hby
  have hln : (bs.map BkR.D).length = n := by simp [ht.len]
  have hyes := fun hd h0 h1 h => lgB_yes (ds := bs.map BkR.D) (ops := ops) (fs := fs) (seq := seq) hd h0 h1 h
  have hno := fun hd k hk ho h => lgB_no (ds := bs.map BkR.D) (ops := ops) (fs := fs) (seq := seq) hd k hk ho h
  have hsq := fun h => lgB_seq (ds := bs.map BkR.D) (ops := ops) (fs := fs) (seq := seq) h
  have hdv := fun h => lgB_dev (ds := bs.map BkR.D) (ops := ops) (fs := fs) (seq := seq) h
  have hch := fun h => (devB_ch (ds := bs.map BkR.D) (ops := ops) (fs := fs) h).2.1
  rw [hln] at hyes hno hch
  generalize lgB (bs.map BkR.D) ops fs seq = R at hyes hno hsq hdv ⊢
  generalize devB (bs.map BkR.D) ops fs = d at c1 hyes hno hdv hch
  have HB : Hid _ := B0
  have C2 : Hid _ := c2
  obtain ⟨H, hH⟩ : ∃ H, w.heap.size = H := ⟨_, rfl⟩
  rw [hH] at z0
  have Z0 : Hid (Blk W0 H 31 #[.slice a n cap, .int .i64 ops, .slice fa m fc, .bool down, .int .i64 seq]) := z0
  obtain ⟨q0, q1, q2, q3, q4⟩ := z0.log
  clear ht hf hby B0 c2 z0 hln
  go_enter Try.func17, Try.ntmps17
  go_wp2_with fail
  try rw [hW0]
  try rw [hH]
  refine c1.mono ?_
  rintro e w1 ⟨rfl, b1⟩
  clear c1 q0 q1 q2 q3 q4 hW0
  have Z1 : Hid (Blk w1 H 31 #[.slice a n cap, .int .i64 ops, .slice fa m fc, .bool down, .int .i64 seq]) := Z0.out.keep b1
  obtain ⟨q0, q1, q2, q3, q4⟩ := Z1.out.log
  have B1 := HB.out.trans (b1.mono HB.out.size)
  cases d
  · have hR : Hid (R = false) := hdv rfl
    clear hyes hno hsq hdv hch
    go_wp2
    go_ret
    rw [hR.out, ← hH]
    exact ⟨rfl, B1⟩
  have hn24 := hch rfl
  by_cases hs0 : seq < 0
  · have hR : Hid (R = false) := hsq (by omega)
    clear hyes hno hsq hdv hch
    go_wp2
    go_ret
    rw [hR.out, ← hH]
    exact ⟨rfl, B1⟩
  by_cases hs1 : seq > 1000000
  · have hR : Hid (R = false) := hsq (by omega)
    clear hyes hno hsq hdv hch
    go_wp2
    go_ret
    rw [hR.out, ← hH]
    exact ⟨rfl, B1⟩
  have HY : Hid ((∀ k, k < 8 * n → rcOk (pgA (bs.map BkR.D) (k : Nat)) = true → (rcR (pgA (bs.map BkR.D) (k : Nat))).seq < seq) → R = true) := fun h => hyes rfl (by omega) (by omega) h
  have HN : Hid (∀ k, k < 8 * n → rcOk (pgA (bs.map BkR.D) (k : Nat)) = true → seq ≤ (rcR (pgA (bs.map BkR.D) (k : Nat))).seq → R = false) := fun k hk ho h => hno rfl k hk ho h
  clear hyes hno hsq hdv hch
  have hca := addrAtO (n : Int) 0 w1 (by omega) (by omega)
  go_wp2_with fail
  refine hca.mono ?_
  rintro e w2 ⟨rfl, hw⟩
  obtain rfl := hw.symm
  obtain ⟨N, hN⟩ : ∃ N : Nat, 8 * n = N := ⟨_, rfl⟩
  have hNN : (n : Int) * 8 + 0 = (N : Int) := by omega
  have hN2 : N ≤ 192 := by omega
  rw [hNN]
  rw [hN] at HY HN
  clear hca hNN hN hn24 q0 q1 q2 q3 q4
  go_wp2
  go_loopw [26] (fun i wr => ∃ (k : Nat), k ≤ N ∧ i = .int .i64 k ∧ Hid (∀ j, j < k → rcOk (pgA (bs.map BkR.D) (j : Nat)) = true → (rcR (pgA (bs.map BkR.D) (j : Nat))).seq < seq) ∧ Hid (Below w1.heap.size w1 wr)) (fun i _ => N - (intOf i).toNat)
  case atStart => exact ⟨0, Nat.zero_le _, rfl, fun j hj => by omega, Below.refl _ _⟩
  case round =>
    obtain ⟨k, hk, rfl, hall, hB⟩ := hrel
    have Zr := Z1.out.keep hB.out
    obtain ⟨q0, q1, q2, q3, q4⟩ := Zr.log
    by_cases hkn : k < N
    · have hki : (k : Int) < (N : Int) := by omega
      have hcall := C2.out wr (b1.trans (hB.out.mono b1.size)) (k : Int) (by omega)
      have hno : Hid (rcOk (pgA (bs.map BkR.D) (k : Nat)) = true → seq ≤ (rcR (pgA (bs.map BkR.D) (k : Nat))).seq → R = false) := fun ho h => HN.out k hkn ho h
      have hyes : Hid ((rcOk (pgA (bs.map BkR.D) (k : Nat)) = true → (rcR (pgA (bs.map BkR.D) (k : Nat))).seq < seq) → ∀ j, j < k + 1 → rcOk (pgA (bs.map BkR.D) (j : Nat)) = true → (rcR (pgA (bs.map BkR.D) (j : Nat))).seq < seq) := by
        intro h j hj
        rcases (show j < k ∨ j = k by omega) with hj | rfl
        · exact hall.out j hj
        · exact h
      generalize rcR (pgA (bs.map BkR.D) (k : Nat)) = D at hcall hno hyes
      generalize rcOk (pgA (bs.map BkR.D) (k : Nat)) = ok at hcall hno hyes
      obtain ⟨kind, sq, body⟩ := D
      unfold RcA recC at hcall
      dsimp only at hcall hno hyes
      obtain ⟨nb, hnb⟩ : ∃ m, body.length = m := ⟨_, rfl⟩
      rw [hnb] at hcall
      clear hall hnb
      go_wp2_with fail
      refine hcall.mono ?_
      rintro e w3 ⟨⟨a1, c1, rfl, _, _⟩, hb1⟩
      have b2 : Below w3.heap.size w3 (w3.alloc (.cells #[.int .i64 kind, .int .i64 sq, .slice a1 nb c1] 46)) := (Below.refl _ w3).alloc (Nat.le_refl _) _
      have v1 := (Blk.new w3 46 #[.int .i64 kind, .int .i64 sq, .slice a1 nb c1]).cell 1
      have v4 := ((Zr.keep hb1).keep b2).log.2.2.2.2
      simp at v1
      have hB' : Hid (Below w1.heap.size w1 (w3.alloc (.cells #[.int .i64 kind, .int .i64 sq, .slice a1 nb c1] 46))) := (hB.out.trans (hb1.mono hB.out.size)).trans (b2.mono (hB.out.trans (hb1.mono hB.out.size)).size)
      clear hcall hb1 b2 hB Zr q0 q1 q2 q3 q4
      cases ok
      · have hall2 : Hid _ := hyes.out (fun h => by simp at h)
        clear hyes hno
        go_wp2
        go_roundw
        case rel => exact ⟨k + 1, by omega, by go_num, hall2, hB'⟩
        case measure => simp [intOf]; omega
      · by_cases hge : sq < seq
        · have hall2 : Hid _ := hyes.out (fun _ => hge)
          have hge2 : ¬ (sq ≥ seq) := by omega
          clear hyes hno
          go_wp2
          go_roundw
          case rel => exact ⟨k + 1, by omega, by go_num, hall2, hB'⟩
          case measure => simp [intOf]; omega
        · have hR : Hid (R = false) := hno.out rfl (by omega)
          have hge2 : sq ≥ seq := by omega
          clear hyes hno
          go_wp2
          go_ret
          rw [hR.out, ← hH]
          exact ⟨rfl, B1.trans (hB'.out.mono B1.size)⟩
    · have hki : ¬ (k : Int) < (N : Int) := by omega
      have hR : Hid (R = true) := HY.out (fun j hj => hall.out j (by omega))
      clear HY HN hall
      go_wp2
      go_ret
      rw [hR.out, ← hH]
      exact ⟨rfl, B1.trans (hB.out.mono B1.size)⟩
end Go.Proofs.Ytpejfkgbfdkdnaa

