/-
  Joined: TreeI, EntOfI, LeadsI.
-/
import Derived.Test.YtnfplimhhjpbkaaGreatDoorJ41T
namespace Go.Proofs.YtnfplimhhjpbkaaGreatDoor
section
open Go.RowKit Go.Maps
theorem entAt_num {es : List (ByteArray × Int)} (h : entsOk es = true) : ∀ e ∈ es, 2 ≤ e.2 ∧ e.2 ≤ 1000 := by
  intro e he
  obtain ⟨k, hk⟩ := List.getElem?_of_mem he
  have hl := (List.getElem?_eq_some_iff.1 hk).1
  unfold entsOk at h
  simp only [Bool.and_eq_true, List.all_eq_true, List.mem_range] at h
  have h1 := h.1 k hl
  unfold entAt at h1
  have hg : es.getD k entD = e := by rw [List.getD_eq_getElem?_getD, hk]; rfl
  rw [hg] at h1
  simp only [Bool.and_eq_true, decide_eq_true_eq] at h1
  exact h1.1.2
theorem tab_wf {nx : Int} {ds : List InoD} (h : tabD nx ds = true) : ∀ D ∈ ds, ∀ e ∈ D.ents, (Lit.int .i64 e.2).wf = true := by
  intro D hD e he
  have h1 := ((tabD_ok h).2.2.2.2.1 D hD).1
  have h2 := entAt_num (ok_parts h1).2.2.1 e he
  obtain ⟨k, hk⟩ : ∃ k : Nat, e.2 = (k : Int) := ⟨e.2.toNat, by omega⟩
  rw [hk]
  exact WalkArith.wf_i64 (by omega)
/-- Each inode has as many links as entries lead to it. -/
def linkedD (ds l : List InoD) : Bool := l.all fun D => decide ((linksD ds D.ino : Int) = D.links)
theorem treeD_split (nx : Int) (ds : List InoD) : treeD nx ds = (tabD nx ds && (linkedD ds ds && (decide ((reachD ds).length = ds.length) && leadD ds))) := by
  unfold treeD linkedD leadD
  have : (ds.all fun D => decide ((linksD ds D.ino : Int) = D.links) && D.ents.all fun e => (look ds e.2).isSome) = ((ds.all fun D => decide ((linksD ds D.ino : Int) = D.links)) && ds.all fun D => D.ents.all (goodE ds)) := by
    rw [Bool.eq_iff_iff]
    simp only [Bool.and_eq_true, List.all_eq_true]
    constructor
    · exact fun h => ⟨fun D hD => (h D hD).1, fun D hD e he => (h D hD).2 e he⟩
    · exact fun h D hD => ⟨h.1 D hD, fun e he => h.2 D hD e he⟩
  rw [this]
  cases tabD nx ds <;> cases decide ((reachD ds).length = ds.length) <;> cases (ds.all fun D => decide ((linksD ds D.ino : Int) = D.links)) <;> rfl
set_option maxRecDepth 100000 in
set_option maxHeartbeats 4000000 in
theorem treeI (a : Option Addr) (n cap : Nat) (nx : Int) (rs : List InoR) (w : World) (ht : TR w a n rs) (hwf : ∀ r ∈ rs, (Lit.int .i64 r.D.ino).wf = true) :
    Calls Tryz.prog 21 #[.agg #[.slice a n cap, .int .i64 nx]] w fun e w' => e = .returned (.bool (treeD nx (rs.map InoR.D))) ∧ Below w.heap.size w w' := by
  have B0 : Below w.heap.size w (w.alloc (.cells #[.slice a n cap, .int .i64 nx] 26)) := (Below.refl _ w).alloc (Nat.le_refl _) _
  have z0 := Blk.new w 26 #[.slice a n cap, .int .i64 nx]
  have hcT := tabOkI a n cap nx rs _ ht.len (by have := ht.n; omega) hwf ht.small (ht.rd.keep B0)
  rw [tab_same, tabS_D] at hcT
  obtain ⟨ds, hds⟩ : ∃ ds, rs.map InoR.D = ds := ⟨_, rfl⟩
  rw [hds] at hcT ⊢
  have HDS : Hid _ := hds
  have hdl : Hid (ds.length = n) := by show _ = _; rw [← hds, List.length_map, ht.len]
  obtain ⟨R, hR⟩ : ∃ R, treeD nx ds = R := ⟨_, rfl⟩
  rw [hR]
  rw [treeD_split, hdl.out] at hR
  have HT : Hid _ := ht
  have HW : Hid _ := hwf
  have hn1 := ht.n
  clear ht hwf hds
  cases htab : tabD nx ds with
  | false =>
    rw [htab] at hcT hR
    have hend : Hid (false = R) := hR
    clear hR htab
    go_enter Tryz.func21, Tryz.ntmps21
    go_wp2_with fail
    (with_reducible refine hcT.mono ?_)
    rintro e w1 ⟨rfl, b1⟩
    have B1 := B0.trans (b1.mono B0.size)
    clear z0 hcT
    go_wp2
    go_ret
    exact ⟨ret_bool hend.out, B1⟩
  | true =>
    have hwe : ∀ r ∈ rs, ∀ e ∈ r.D.ents, (Lit.int .i64 e.2).wf = true := fun r hr => tab_wf htab r.D (by rw [← HDS.out]; exact List.mem_map_of_mem hr)
    have HE : Hid _ := hwe
    rw [htab] at hcT hR
    rw [Bool.true_and] at hR
    have HR : Hid ((linkedD ds (ds.drop 0) && (decide ((reachD ds).length = n) && leadD ds)) = R) := hR
    clear hR htab hwe
    go_enter Tryz.func21, Tryz.ntmps21
    go_wp2_with fail
    (with_reducible refine hcT.mono ?_)
    rintro e w1 ⟨rfl, b1⟩
    have B1 := B0.trans (b1.mono B0.size)
    have z1 := z0.keep b1
    have t0 := z1.cell 0
    simp at t0
    clear z0 hcT B0 b1
    have HZ : Hid _ := z1
    have HB1 : Hid _ := B1
    clear z1 B1
    go_wp2
    clear t0
    go_loopw [11] (fun i wr => ∃ k : Nat, k ≤ n ∧ i = .int .i64 k ∧ Hid ((linkedD ds (ds.drop k) && (decide ((reachD ds).length = n) && leadD ds)) = R) ∧ Hid (Below w1.heap.size w1 wr)) (fun i _ => n - (intOf i).toNat)
    case atStart => exact ⟨0, Nat.zero_le _, rfl, HR, Below.refl _ _⟩
    case round =>
      obtain ⟨k, hk, rfl, hall, hB⟩ := hrel
      obtain ⟨U, hU⟩ : ∃ U, U = wr := ⟨_, rfl⟩
      subst hU
      clear HR
      have zU := Blk.keep HZ.out hB.out
      have t0 := zU.cell 0
      have t1 := zU.cell 1
      simp at t0 t1
      have hTr := HT.out.keep (HB1.out.trans (hB.out.mono HB1.out.size))
      by_cases hkn : k < n
      · have hki : (k : Int) < (n : Int) := by omega
        have hk0 : (0 : Int) ≤ (k : Int) := by omega
        obtain ⟨r, hrk⟩ : ∃ r, rs[k]? = some r := ⟨_, List.getElem?_eq_getElem (by rw [hTr.len]; exact hkn)⟩
        obtain ⟨b, off, rfl, hlt, hc⟩ := RdI.lt hTr.rd (by intro h; rw [h] at hrk; simp at hrk)
        obtain ⟨x6, xr⟩ := hc k r hrk
        obtain ⟨x0, x1, x2, x3, x4, x5⟩ := x6
        have hall' := hall.out
        unfold linkedD at hall'
        rw [all_drop (x := r.D) _ (by rw [← HDS.out]; simp [hrk])] at hall'
        generalize r.D.ino = i1 at x0 hall'
        generalize r.D.kind = i2 at x1
        generalize r.D.links = i3 at x2 hall'
        generalize r.D.data.length = n1 at x3
        generalize r.D.ents.length = n2 at x4
        generalize r.D.attrs.length = n3 at x5
        obtain ⟨V, hV⟩ : ∃ V, U.alloc (.cells #[.int .i64 i1, .int .i64 i2, .int .i64 i3, .slice r.a1 n1 r.c1, .slice r.a2 n2 r.c2, .slice r.a3 n3 r.c3] 66) = V := ⟨_, rfl⟩
        have bx := Blk.new U 66 #[.int .i64 i1, .int .i64 i2, .int .i64 i3, .slice r.a1 n1 r.c1, .slice r.a2 n2 r.c2, .slice r.a3 n3 r.c3]
        have hbA : Below U.heap.size U (U.alloc (.cells #[.int .i64 i1, .int .i64 i2, .int .i64 i3, .slice r.a1 n1 r.c1, .slice r.a2 n2 r.c2, .slice r.a3 n3 r.c3] 66)) := (Below.refl _ U).alloc (Nat.le_refl _) _
        rw [hV] at bx hbA
        have zV := zU.keep hbA
        have hcK := linksI (some ⟨b, off, none⟩) n cap nx i1 rs V.drew (hTr.keep hbA.drew)
        rw [HDS.out] at hcK
        have hKK : Hid (∀ W : World, Below V.heap.size V W → W.cell? ⟨w.heap.size, 0, none⟩ = some (.slice (some ⟨b, off, none⟩) n cap) ∧ W.cell? ⟨w.heap.size, 1, none⟩ = some (.int .i64 nx) ∧ W.cell? ⟨U.heap.size, 0, none⟩ = some (.int .i64 i1) ∧ W.cell? ⟨U.heap.size, 2, none⟩ = some (.int .i64 i3)) := fun W hW => ⟨(zV.keep hW).cell 0, (zV.keep hW).cell 1, (bx.keep hW).cell 0, (bx.keep hW).cell 2⟩
        have HBA : Hid _ := hB.out.trans (hbA.mono hB.out.size)
        generalize linksD ds i1 = lk at hcK hall'
        clear hc hrk xr bx hbA hall hTr zU zV
        by_cases hlk : i3 = (lk : Int)
        · have hlb : (i3 != (lk : Int)) = false := by simp [hlk]
          have hlb' : (i3 == (lk : Int)) = true := by simp [hlk]
          rw [decide_eq_true hlk.symm, Bool.true_and] at hall'
          have hnx : Hid _ := hall'
          clear hlk hall'
          go_upto_region 6 with fail
          clear hV
          obtain ⟨g0, g1, g2, g3⟩ := hKK.out _ (Below.refl _ _)
          go_region_held3 (fun W : World => W.cell? ⟨w.heap.size, 0, none⟩ = some (.slice (some ⟨b, off, none⟩) n cap) ∧ W.cell? ⟨w.heap.size, 1, none⟩ = some (.int .i64 nx) ∧ W.cell? ⟨U.heap.size, 0, none⟩ = some (.int .i64 i1) ∧ W.cell? ⟨U.heap.size, 2, none⟩ = some (.int .i64 i3)) (go_keep) ((go_at_call 71; (with_reducible refine hcK.mono ?_); rintro e w2 ⟨rfl, hb2⟩; obtain ⟨p0, p1, p2, p3⟩ := hKK.out w2 ((Below.refl _ _).drew.trans hb2)))
          have hB2 : Hid (Below w1.heap.size w1 w2) := HBA.out.trans (((Below.refl _ _).drew.trans hb2).mono HBA.out.size)
          clear p0 p1 p2 p3 g0 g1 g2 g3 t0 t1 x0 x1 x2 x3 x4 x5 hcK hb2
          go_wp2
          go_roundw
          case rel => exact ⟨k + 1, by omega, by go_num, hnx, hB2⟩
          case measure => simp [intOf]; omega
        · have hlb : (i3 != (lk : Int)) = true := by simpa using hlk
          have hlb' : (i3 == (lk : Int)) = false := by simpa using hlk
          rw [decide_eq_false (fun h => hlk h.symm), Bool.false_and, Bool.false_and] at hall'
          have hend : Hid (false = R) := hall'
          clear hlk hall'
          go_upto_region 6 with fail
          clear hV
          obtain ⟨g0, g1, g2, g3⟩ := hKK.out _ (Below.refl _ _)
          go_region_held3 (fun W : World => W.cell? ⟨w.heap.size, 0, none⟩ = some (.slice (some ⟨b, off, none⟩) n cap) ∧ W.cell? ⟨w.heap.size, 1, none⟩ = some (.int .i64 nx) ∧ W.cell? ⟨U.heap.size, 0, none⟩ = some (.int .i64 i1) ∧ W.cell? ⟨U.heap.size, 2, none⟩ = some (.int .i64 i3)) (go_keep) ((go_at_call 71; (with_reducible refine hcK.mono ?_); rintro e w2 ⟨rfl, hb2⟩; obtain ⟨p0, p1, p2, p3⟩ := hKK.out w2 ((Below.refl _ _).drew.trans hb2)))
          have hB2 : Hid (Below w.heap.size w w2) := HB1.out.trans ((HBA.out.trans (((Below.refl _ _).drew.trans hb2).mono HBA.out.size)).mono HB1.out.size)
          clear p0 p1 p2 p3 g0 g1 g2 g3 t0 t1 x0 x1 x2 x3 x4 x5 hcK hb2
          go_wp2
          go_ret
          exact ⟨ret_bool hend.out, hB2.out⟩
      · have hki : ¬ (k : Int) < (n : Int) := by omega
        have hall' := hall.out
        rw [List.drop_of_length_le (by rw [hdl.out]; omega)] at hall'
        have hR2 : Hid ((decide ((reachD ds).length = n) && leadD ds) = R) := hall'
        clear hall hall'
        have HBU : Hid (Below w.heap.size w U) := HB1.out.trans (hB.out.mono HB1.out.size)
        have hcR := reachedI a n cap nx rs U.drew (hTr.keep (Below.refl _ _).drew) HW.out HE.out
        have HCL : Hid _ := fun (W : World) (hW : Below U.heap.size U W) => leadI a n cap nx rs W (hTr.keep hW) HW.out HE.out
        have HK : Hid (∀ W : World, Below U.heap.size U W → W.cell? ⟨w.heap.size, 0, none⟩ = some (.slice a n cap) ∧ W.cell? ⟨w.heap.size, 1, none⟩ = some (.int .i64 nx)) := fun W hW => ⟨(zU.keep hW).cell 0, (zU.keep hW).cell 1⟩
        rw [HDS.out] at hcR HCL
        clear hTr zU
        obtain ⟨m, hm⟩ : ∃ m, (reachD ds).length = m := ⟨_, rfl⟩
        have hcR' : Calls Tryz.prog 33 #[.agg #[.slice a n cap, .int .i64 nx]] U.drew fun e w' => ∃ a' c', e = .returned (.slice a' m c') ∧ Below U.heap.size U w' := by
          refine hcR.mono fun e w' hp => ?_
          obtain ⟨v, rfl, ho, hb⟩ := hp
          rw [hm] at ho
          obtain ⟨a', c', rfl⟩ := ownShape ho
          exact ⟨a', c', rfl, (Below.refl _ U).drew.trans hb⟩
        clear hcR
        rw [hm] at hR2
        clear hm
        by_cases hmn : m = n
        · have hmb : ((m : Int) != (n : Int)) = false := by simp [hmn]
          have hmb' : ((m : Int) == (n : Int)) = true := by simp [hmn]
          have hmi : (m : Int) = (n : Int) := by omega
          have hR3 := hR2.out
          rw [decide_eq_true hmn, Bool.true_and] at hR3
          have HR3 : Hid _ := hR3
          clear hR2 hR3 hmn
          go_upto_region 9 with fail
          refine wp_region_noPanic ?_
          refine wp_region_held_drew (S := fun W : World => W.cell? ⟨w.heap.size, 0, none⟩ = some (.slice a n cap) ∧ W.cell? ⟨w.heap.size, 1, none⟩ = some (.int .i64 nx)) (by kernel_rfl) (by go_keep) (fun hS => ?_)
          refine wpAnyH_take (i := 0) (v := ?gv1) rfl (by kernel_rfl) (by kernel_rfl) (by kernel_rfl) (fun _ _ _ h => h) (Or.inl ⟨by kernel_rfl, ?gy1⟩) (by assumption) ?gr1
          case gy1 => (intro w' hSw; (try dsimp only at hSw); go_simp; (try with_reducible rfl))
          try simp only [Act.put, List.setIfInBounds_toArray, List.set_cons_zero, List.set_cons_succ, List.getElem_toArray, List.getElem_cons_zero]
          refine wpAnyH_take (i := 3) (v := ?gv2) rfl (by kernel_rfl) (by kernel_rfl) (by kernel_rfl) (fun _ _ _ h => h) (Or.inl ⟨by kernel_rfl, ?gy2⟩) (by assumption) ?gr2
          case gy2 => (intro w' hSw; (try dsimp only at hSw); go_simp; (try with_reducible rfl))
          try simp only [Act.put, List.setIfInBounds_toArray, List.set_cons_zero, List.set_cons_succ, List.getElem_toArray, List.getElem_cons_succ, List.getElem_cons_zero]
          refine wpAnyH_take (i := 4) (v := ?gv3) rfl (by kernel_rfl) (by kernel_rfl) (by kernel_rfl) (fun _ _ _ h => h) (Or.inl ⟨by kernel_rfl, ?gy3⟩) (by assumption) ?gr3
          case gy3 => (intro w' hSw; (try dsimp only at hSw); go_simp; (try with_reducible rfl))
          try simp only [Act.put, List.setIfInBounds_toArray, List.set_cons_zero, List.set_cons_succ, List.getElem_toArray, List.getElem_cons_succ, List.getElem_cons_zero]
          refine wpAnyH_take (i := 5) (v := ?gv4) rfl (by kernel_rfl) (by kernel_rfl) (by kernel_rfl) (fun _ _ _ h => h) (Or.inl ⟨by kernel_rfl, ?gy4⟩) (by assumption) ?gr4
          case gy4 => (intro w' hSw; (try dsimp only at hSw); go_simp; (try with_reducible rfl))
          try simp only [Act.put, List.setIfInBounds_toArray, List.set_cons_zero, List.set_cons_succ, List.getElem_toArray, List.getElem_cons_succ, List.getElem_cons_zero]
          refine wpAnyH_ready (rs := [1]) (by kernel_rfl) (by simp) ?_
          refine AllReadyH.cons rfl (fun K hK => ?_) AllReadyH.nil
          go_simp
          go_at_call 33
          (with_reducible refine hcR'.mono ?_)
          rintro e w3 ⟨ra, rc, rfl, B3⟩
          clear hS
          dsimp only
          refine Shut.out hK _ _ (HK.out w3 B3) (fun hS => ?_)
          try simp only [Act.put, List.setIfInBounds_toArray, List.set_cons_zero, List.set_cons_succ, List.getElem_toArray, List.getElem_cons_succ, List.getElem_cons_zero]
          refine wpAnyH_take (i := 2) (v := ?gv5) rfl (by kernel_rfl) (by kernel_rfl) (by kernel_rfl) (fun _ _ _ h => h) (Or.inl ⟨by kernel_rfl, ?gy5⟩) (by assumption) ?gr5
          case gy5 => (intro w' hSw; (try dsimp only at hSw); go_simp; (try with_reducible rfl))
          try simp only [Act.put, List.setIfInBounds_toArray, List.set_cons_zero, List.set_cons_succ, List.getElem_toArray, List.getElem_cons_succ, List.getElem_cons_zero]
          refine wpAnyH_take (i := 6) (v := ?gv6) rfl (by kernel_rfl) (by kernel_rfl) (by kernel_rfl) (fun _ _ _ h => h) (Or.inl ⟨by kernel_rfl, ?gy6⟩) (by assumption) ?gr6
          case gy6 => (intro w' hSw; (try dsimp only at hSw); go_simp; (try with_reducible rfl))
          try simp only [Act.put, List.setIfInBounds_toArray, List.set_cons_zero, List.set_cons_succ, List.getElem_toArray, List.getElem_cons_succ, List.getElem_cons_zero]
          refine wpAnyH_take (i := 7) (v := ?gv7) rfl (by kernel_rfl) (by kernel_rfl) (by kernel_rfl) (fun _ _ _ h => h) (Or.inl ⟨by kernel_rfl, ?gy7⟩) (by assumption) ?gr7
          case gy7 => (intro w' hSw; (try dsimp only at hSw); go_simp; (try with_reducible rfl))
          try simp only [Act.put, List.setIfInBounds_toArray, List.set_cons_zero, List.set_cons_succ, List.getElem_toArray, List.getElem_cons_succ, List.getElem_cons_zero]
          refine wpAnyH_take (i := 8) (v := ?gv8) rfl (by kernel_rfl) (by kernel_rfl) (by kernel_rfl) (fun _ _ _ h => h) (Or.inl ⟨by kernel_rfl, ?gy8⟩) (by assumption) ?gr8
          case gy8 => (intro w' hSw; (try dsimp only at hSw); go_simp; (try with_reducible rfl))
          try simp only [Act.put, List.setIfInBounds_toArray, List.set_cons_zero, List.set_cons_succ, List.getElem_toArray, List.getElem_cons_succ, List.getElem_cons_zero]
          refine wpAnyH_ready (rs := [9]) (by kernel_rfl) (by simp) ?_
          refine AllReadyH.cons rfl (fun K hK => ?_) AllReadyH.nil
          go_simp
          go_at_call 72
          (with_reducible refine (HCL.out w3 B3).mono ?_)
          rintro e w4 ⟨rfl, b4⟩
          have B4 : Below U.heap.size U w4 := B3.trans (b4.mono B3.size)
          clear hS
          dsimp only
          refine Shut.out hK _ _ (HK.out w4 B4) (fun hS => ?_)
          try simp only [Act.put, List.setIfInBounds_toArray, List.set_cons_zero, List.set_cons_succ, List.getElem_toArray, List.getElem_cons_succ, List.getElem_cons_zero]
          refine wpAnyH_take (i := 10) (v := ?gv9) rfl (by kernel_rfl) (by kernel_rfl) (by kernel_rfl) (fun _ _ _ h => h) (Or.inl ⟨by kernel_rfl, ?gy9⟩) (by assumption) ?gr9
          case gy9 => (intro w' hSw; (try dsimp only at hSw); go_simp; (try with_reducible rfl))
          try simp only [Act.put, List.setIfInBounds_toArray, List.set_cons_zero, List.set_cons_succ, List.getElem_toArray, List.getElem_cons_succ, List.getElem_cons_zero]
          refine wpAnyH_take (i := 11) (v := ?gv10) rfl (by kernel_rfl) (by kernel_rfl) (by kernel_rfl) (fun _ _ _ h => h) (Or.inl ⟨by kernel_rfl, ?gy10⟩) (by assumption) ?gr10
          case gy10 => (intro w' hSw; (try dsimp only at hSw); go_simp; (try with_reducible rfl))
          try simp only [Act.put, List.setIfInBounds_toArray, List.set_cons_zero, List.set_cons_succ, List.getElem_toArray, List.getElem_cons_succ, List.getElem_cons_zero]
          refine wpAnyH_done (by kernel_rfl) (NoPanic.normal ?_) _
          clear t0 t1 hcR'
          have hfb : Hid _ := HBU.out.trans (B4.mono HBU.out.size)
          go_wp2
          go_ret
          exact ⟨ret_bool HR3.out, hfb.out⟩
        · have hmb : ((m : Int) != (n : Int)) = true := by simp; omega
          have hmb' : ((m : Int) == (n : Int)) = false := by simp; omega
          have hmi : ¬ (m : Int) = (n : Int) := by omega
          have hR3 := hR2.out
          rw [decide_eq_false hmn, Bool.false_and] at hR3
          have HR3 : Hid (false = R) := hR3
          clear hR2 hR3 hmn
          go_upto_region 9 with fail
          refine wp_region_noPanic ?_
          refine wp_region_held_drew (S := fun W : World => W.cell? ⟨w.heap.size, 0, none⟩ = some (.slice a n cap) ∧ W.cell? ⟨w.heap.size, 1, none⟩ = some (.int .i64 nx)) (by kernel_rfl) (by go_keep) (fun hS => ?_)
          refine wpAnyH_take (i := 0) (v := ?gv11) rfl (by kernel_rfl) (by kernel_rfl) (by kernel_rfl) (fun _ _ _ h => h) (Or.inl ⟨by kernel_rfl, ?gy11⟩) (by assumption) ?gr11
          case gy11 => (intro w' hSw; (try dsimp only at hSw); go_simp; (try with_reducible rfl))
          try simp only [Act.put, List.setIfInBounds_toArray, List.set_cons_zero, List.set_cons_succ, List.getElem_toArray, List.getElem_cons_zero]
          refine wpAnyH_take (i := 3) (v := ?gv12) rfl (by kernel_rfl) (by kernel_rfl) (by kernel_rfl) (fun _ _ _ h => h) (Or.inl ⟨by kernel_rfl, ?gy12⟩) (by assumption) ?gr12
          case gy12 => (intro w' hSw; (try dsimp only at hSw); go_simp; (try with_reducible rfl))
          try simp only [Act.put, List.setIfInBounds_toArray, List.set_cons_zero, List.set_cons_succ, List.getElem_toArray, List.getElem_cons_succ, List.getElem_cons_zero]
          refine wpAnyH_take (i := 4) (v := ?gv13) rfl (by kernel_rfl) (by kernel_rfl) (by kernel_rfl) (fun _ _ _ h => h) (Or.inl ⟨by kernel_rfl, ?gy13⟩) (by assumption) ?gr13
          case gy13 => (intro w' hSw; (try dsimp only at hSw); go_simp; (try with_reducible rfl))
          try simp only [Act.put, List.setIfInBounds_toArray, List.set_cons_zero, List.set_cons_succ, List.getElem_toArray, List.getElem_cons_succ, List.getElem_cons_zero]
          refine wpAnyH_take (i := 5) (v := ?gv14) rfl (by kernel_rfl) (by kernel_rfl) (by kernel_rfl) (fun _ _ _ h => h) (Or.inl ⟨by kernel_rfl, ?gy14⟩) (by assumption) ?gr14
          case gy14 => (intro w' hSw; (try dsimp only at hSw); go_simp; (try with_reducible rfl))
          try simp only [Act.put, List.setIfInBounds_toArray, List.set_cons_zero, List.set_cons_succ, List.getElem_toArray, List.getElem_cons_succ, List.getElem_cons_zero]
          refine wpAnyH_ready (rs := [1]) (by kernel_rfl) (by simp) ?_
          refine AllReadyH.cons rfl (fun K hK => ?_) AllReadyH.nil
          go_simp
          go_at_call 33
          (with_reducible refine hcR'.mono ?_)
          rintro e w3 ⟨ra, rc, rfl, B3⟩
          clear hS
          dsimp only
          refine Shut.out hK _ _ (HK.out w3 B3) (fun hS => ?_)
          try simp only [Act.put, List.setIfInBounds_toArray, List.set_cons_zero, List.set_cons_succ, List.getElem_toArray, List.getElem_cons_succ, List.getElem_cons_zero]
          refine wpAnyH_take (i := 2) (v := ?gv15) rfl (by kernel_rfl) (by kernel_rfl) (by kernel_rfl) (fun _ _ _ h => h) (Or.inl ⟨by kernel_rfl, ?gy15⟩) (by assumption) ?gr15
          case gy15 => (intro w' hSw; (try dsimp only at hSw); go_simp; (try with_reducible rfl))
          try simp only [Act.put, List.setIfInBounds_toArray, List.set_cons_zero, List.set_cons_succ, List.getElem_toArray, List.getElem_cons_succ, List.getElem_cons_zero]
          refine wpAnyH_take (i := 6) (v := ?gv16) rfl (by kernel_rfl) (by kernel_rfl) (by kernel_rfl) (fun _ _ _ h => h) (Or.inl ⟨by kernel_rfl, ?gy16⟩) (by assumption) ?gr16
          case gy16 => (intro w' hSw; (try dsimp only at hSw); go_simp; (try with_reducible rfl))
          try simp only [Act.put, List.setIfInBounds_toArray, List.set_cons_zero, List.set_cons_succ, List.getElem_toArray, List.getElem_cons_succ, List.getElem_cons_zero]
          refine wpAnyH_take (i := 7) (v := ?gv17) rfl (by kernel_rfl) (by kernel_rfl) (by kernel_rfl) (fun _ _ _ h => h) (Or.inl ⟨by kernel_rfl, ?gy17⟩) (by assumption) ?gr17
          case gy17 => (intro w' hSw; (try dsimp only at hSw); go_simp; (try with_reducible rfl))
          try simp only [Act.put, List.setIfInBounds_toArray, List.set_cons_zero, List.set_cons_succ, List.getElem_toArray, List.getElem_cons_succ, List.getElem_cons_zero]
          refine wpAnyH_take (i := 8) (v := undef) rfl (by kernel_rfl) (by kernel_rfl) (by kernel_rfl) (fun _ _ _ h => h) (Or.inr ⟨by kernel_rfl, rfl⟩) (by assumption) ?_
          try simp only [Act.put, List.setIfInBounds_toArray, List.set_cons_zero, List.set_cons_succ, List.getElem_toArray, List.getElem_cons_succ, List.getElem_cons_zero]
          refine wpAnyH_take (i := 9) (v := undef) rfl (by kernel_rfl) (by kernel_rfl) (by kernel_rfl) (fun _ _ _ h => h) (Or.inr ⟨by kernel_rfl, rfl⟩) (by assumption) ?_
          try simp only [Act.put, List.setIfInBounds_toArray, List.set_cons_zero, List.set_cons_succ, List.getElem_toArray, List.getElem_cons_succ, List.getElem_cons_zero]
          refine wpAnyH_take (i := 10) (v := ?gv18) rfl (by kernel_rfl) (by kernel_rfl) (by kernel_rfl) (fun _ _ _ h => h) (Or.inl ⟨by kernel_rfl, ?gy18⟩) (by assumption) ?gr18
          case gy18 => (intro w' hSw; (try dsimp only at hSw); go_simp; (try with_reducible rfl))
          try simp only [Act.put, List.setIfInBounds_toArray, List.set_cons_zero, List.set_cons_succ, List.getElem_toArray, List.getElem_cons_succ, List.getElem_cons_zero]
          refine wpAnyH_take (i := 11) (v := ?gv19) rfl (by kernel_rfl) (by kernel_rfl) (by kernel_rfl) (fun _ _ _ h => h) (Or.inl ⟨by kernel_rfl, ?gy19⟩) (by assumption) ?gr19
          case gy19 => (intro w' hSw; (try dsimp only at hSw); go_simp; (try with_reducible rfl))
          try simp only [Act.put, List.setIfInBounds_toArray, List.set_cons_zero, List.set_cons_succ, List.getElem_toArray, List.getElem_cons_succ, List.getElem_cons_zero]
          refine wpAnyH_done (by kernel_rfl) (NoPanic.normal ?_) _
          clear t0 t1 hcR'
          have hfb : Hid _ := HBU.out.trans (B3.mono HBU.out.size)
          go_wp2
          go_ret
          exact ⟨ret_bool HR3.out, hfb.out⟩
end

section
open Go.RowKit
set_option maxHeartbeats 1600000 in
theorem entOfI (D : InoD) (a1 a2 a3 : Option Addr) (c1 c2 c3 : Nat) (nm : ByteArray) (w : World) (h2 : D.ents.length ≤ 1048576) (hr : InoRd w D a1 a2 a3) :
    Calls Tryz.prog 244 #[inoV D a1 c1 a2 c2 a3 c3, .string nm] w fun e w' => e = .returned (.int .i64 (entOf nm D.ents)) ∧ Below w.heap.size w w' := by
  obtain ⟨ino, kind, links, data, ents, attrs⟩ := D
  obtain ⟨n1, hn1⟩ : ∃ n, data.length = n := ⟨_, rfl⟩
  obtain ⟨n2, hn2⟩ : ∃ n, ents.length = n := ⟨_, rfl⟩
  obtain ⟨n3, hn3⟩ : ∃ n, attrs.length = n := ⟨_, rfl⟩
  dsimp only at h2
  unfold inoV
  dsimp only
  rw [hn2] at h2
  simp only [hn1, hn2, hn3]
  have k2 : Hid (ents.length = n2) := hn2
  clear hn1 hn2 hn3
  obtain ⟨_, _, r3, _⟩ := hr
  dsimp only at r3
  have B0 : Below w.heap.size w (w.alloc (.cells #[.int .i64 ino, .int .i64 kind, .int .i64 links, .slice a1 n1 c1, .slice a2 n2 c2, .slice a3 n3 c3] 66)) := (Below.refl _ w).alloc (Nat.le_refl _) _
  have HB : Hid _ := B0
  by_cases h0 : n2 = 0
  · subst h0
    obtain rfl : ents = [] := List.length_eq_zero_iff.1 k2.out
    go_enter Tryz.func244, Tryz.ntmps244
    go_wp2
    refine wp_loop_rounds 1 ?_; rw [rounds_succ]
    go_wp2
    go_ret
    exact ⟨rfl, HB.out⟩
  · have hne : eP ents ≠ [] := by intro h; have := congrArg List.length h; rw [eP_length, k2.out] at this; simp at this; omega
    obtain ⟨b, off, rfl, hlt, hc⟩ := r3.lt hne
    have HC : Hid _ := hc
    clear r3 hne hc B0
    go_enter Tryz.func244, Tryz.ntmps244
    go_wp2
    go_loopw [10] (fun i wr => ∃ k : Nat, k ≤ n2 ∧ i = .int .i64 k ∧ Below w.heap.size w wr ∧ Hid (entOf nm ents = entOf nm (ents.drop k))) (fun i _ => n2 - (intOf i).toNat)
    case atStart => exact ⟨0, Nat.zero_le _, rfl, HB.out, rfl⟩
    case round =>
      obtain ⟨k, hk, rfl, hB, he⟩ := hrel
      by_cases hkn : k < n2
      · have hkl : k < ents.length := by rw [k2.out]; exact hkn
        have hki : (k : Int) < (n2 : Int) := by omega
        have hx := HC.out k (by rw [eP_length]; exact hkl)
        rw [eP_at ents k hkl] at hx
        have hd := entOf_drop nm ents k hkl
        obtain ⟨z, hz⟩ : ∃ z, ents[k].1 = z := ⟨_, rfl⟩
        obtain ⟨u, hu⟩ : ∃ u, ents[k].2 = u := ⟨_, rfl⟩
        rw [hz, hu] at hx hd
        have x1 : wr.cell? ⟨b, off + k * 2, none⟩ = _ := (hB.cell (by exact hlt)).trans hx.1
        have x2 : wr.cell? ⟨b, off + k * 2 + 1, none⟩ = _ := (hB.cell (by exact hlt)).trans hx.2
        dsimp only at x1 x2
        have hbs := hB.size
        by_cases hzn : z = nm
        · have hend : Hid (entOf nm ents = u) := by show _ = _; rw [he.out, hd, if_pos hzn]
          subst hzn
          clear hd hz hu hkl he hx
          go_wp2
          go_ret
          exact ⟨by rw [hend.out]; rfl, hB.alloc hbs _⟩
        · have hb := bytes_ne hzn
          have hnx : Hid (entOf nm ents = entOf nm (ents.drop (k + 1))) := by show _ = _; rw [he.out, hd, if_neg hzn]
          clear hd hz hu hkl he hx
          go_wp2
          go_roundw
          case rel => exact ⟨k + 1, by omega, by go_num, hB.alloc hbs _, hnx⟩
          case measure => simp [intOf]; omega
      · have hki : ¬ (k : Int) < (n2 : Int) := by omega
        have hend : Hid (entOf nm ents = 0) := by show _ = _; rw [he.out, List.drop_of_length_le (by rw [k2.out]; omega)]; rfl
        go_wp2
        go_ret
        exact ⟨by rw [hend.out]; rfl, hB⟩
end

section
open Go.RowKit
/-- What a name leads to, and a code. -/
def leadE (D : InoD) (nm : ByteArray) : Int × Int := if D.kind = 2 then (if entOf nm D.ents = 0 then (0, 2) else (entOf nm D.ents, 0)) else (0, 3)
theorem walkD_lead (ds : List InoD) (x : Int) (nm : ByteArray) (l : List ByteArray) (D : InoD) (h : look ds x = some D) : walkD ds x (nm :: l) = if (leadE D nm).2 = 0 then walkD ds (leadE D nm).1 l else (0, (leadE D nm).2) := by
  rw [walkD, h]
  dsimp only
  unfold leadE
  by_cases hk : D.kind = 2
  · rw [if_pos hk, if_pos hk]
    by_cases h0 : entOf nm D.ents = 0
    · rw [if_pos h0, if_pos h0]
      simp
    · rw [if_neg h0, if_neg h0]
      simp
  · rw [if_neg hk, if_neg hk]
    simp
set_option maxRecDepth 100000 in
set_option maxHeartbeats 1000000 in
theorem leadsI (D : InoD) (a1 a2 a3 : Option Addr) (c1 c2 c3 : Nat) (nm : ByteArray) (w : World) (hk : D.kind = 1 ∨ D.kind = 2) (h2 : D.ents.length ≤ 1048576) (hr : InoRd w D a1 a2 a3) :
    Calls Tryz.prog 201 #[.agg #[.int .i64 D.ino, .int .i64 D.kind, .int .i64 D.links, .slice a1 D.data.length c1, .slice a2 D.ents.length c2, .slice a3 D.attrs.length c3], .string nm] w fun e w' => e = .returned (.tuple #[.int .i64 (leadE D nm).1, errV (leadE D nm).2]) ∧ Below w.heap.size w w' := by
  have B0 : Below w.heap.size w (w.alloc (.cells #[.int .i64 D.ino, .int .i64 D.kind, .int .i64 D.links, .slice a1 D.data.length c1, .slice a2 D.ents.length c2, .slice a3 D.attrs.length c3] 66)) := (Below.refl _ w).alloc (Nat.le_refl _) _
  have hcE := entOfI D a1 a2 a3 c1 c2 c3 nm _ h2 (hr.keep B0)
  unfold inoV at hcE
  rcases hk with hk | hk
  · have hl : leadE D nm = (0, 3) := by unfold leadE; rw [hk]; simp
    rw [hl, errV_some (by decide)]
    clear hcE hl
    rw [hk] at B0 ⊢
    go_enter Tryz.func201, Tryz.ntmps201
    go_wp2
    refine bodyPost_ret (v := .tuple #[.int .i64 0, .iface 136 (.int .i64 3)]) (by simp [results, Tryz.f201, go_sem]) rfl ?_
    exact ⟨rfl, B0⟩
  · have hl : leadE D nm = if entOf nm D.ents = 0 then (0, 2) else (entOf nm D.ents, 0) := by unfold leadE; rw [if_pos hk]
    rw [hl]
    rw [hk] at B0 hcE ⊢
    generalize entOf nm D.ents = u at hcE ⊢
    clear hl hk
    by_cases hu : u = 0
    · subst hu
      rw [if_pos rfl, errV_some (by decide)]
      go_enter Tryz.func201, Tryz.ntmps201
      go_wp2_with fail
      (with_reducible refine hcE.mono ?_)
      rintro e w1 ⟨rfl, b1⟩
      have B1 := B0.trans (b1.mono B0.size)
      clear hcE
      go_wp2
      refine bodyPost_ret (v := .tuple #[.int .i64 0, .iface 136 (.int .i64 2)]) (by simp [results, Tryz.f201, go_sem]) rfl ?_
      exact ⟨rfl, B1⟩
    · have hub : (u == 0) = false := by simpa using hu
      rw [if_neg hu, errV_zero]
      go_enter Tryz.func201, Tryz.ntmps201
      go_wp2_with fail
      (with_reducible refine hcE.mono ?_)
      rintro e w1 ⟨rfl, b1⟩
      have B1 := B0.trans (b1.mono B0.size)
      clear hcE
      go_wp2
      refine bodyPost_ret (v := .tuple #[.int .i64 u, .nilIface]) (by simp [results, Tryz.f201, go_sem]) rfl ?_
      exact ⟨rfl, B1⟩
end
end Go.Proofs.YtnfplimhhjpbkaaGreatDoor
