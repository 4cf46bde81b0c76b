/-
  Joined: LinksI, TabEq, TreeI.
-/
import Derived.Test.YtfjlemnohjnkhaaGreatJ20F
import Derived.Test.YtfjlemnohjnkhaaGreatJ29F
namespace Go.Proofs.YtfjlemnohjnkhaaGreat
section
open Go.RowKit
set_option maxRecDepth 100000 in
set_option maxHeartbeats 4000000 in
theorem linksI (a : Option Addr) (n cap : Nat) (nx x : Int) (rs : List InoR) (w : World) (ht : TR w a n rs) :
    Calls Tryz.prog 103 #[.agg #[.slice a n cap, .int .i64 nx], .int .i64 x] w fun e w' => e = .returned (.int .i64 (linksD (rs.map InoR.D) x : Nat)) ∧ Below w.heap.size w w' := by
  have B0 : Below w.heap.size w (w.alloc (.cells #[.slice a n cap, .int .i64 nx] 47)) := (Below.refl _ w).alloc (Nat.le_refl _) _
  have z0 := Blk.new w 47 #[.slice a n cap, .int .i64 nx]
  have ht0 := ht.keep B0
  have HB : Hid _ := B0
  have HT : Hid _ := ht0
  have hln : Hid (rs.length = n) := ht.len
  have hn1 := ht.n
  obtain ⟨R, hR⟩ : ∃ R, linksD (rs.map InoR.D) x = R := ⟨_, rfl⟩
  rw [hR]
  have HR : Hid _ := hR
  clear ht ht0 hR B0
  go_enter Tryz.func103, Tryz.ntmps103
  have t0 := z0.cell 0
  simp at t0
  go_wp2
  obtain ⟨W0, hW0⟩ : ∃ W, w.alloc (.cells #[.slice a n cap, .int .i64 nx] 47) = W := ⟨_, rfl⟩
  rw [hW0] at z0 HB HT ⊢
  clear hW0 z0 t0
  go_loopw [5, 13] (fun c i wr => ∃ k m : Nat, k ≤ n ∧ i = .int .i64 k ∧ c = .int .i64 m ∧ m ≤ k * 1048576 ∧ Hid (linksD ((rs.map InoR.D).take k) x = m) ∧ Hid (Below W0.heap.size W0 wr)) (fun _ i _ => n - (intOf i).toNat)
  case atStart => exact ⟨0, 0, Nat.zero_le _, rfl, rfl, Nat.zero_le _, rfl, Below.refl _ _⟩
  case round =>
    obtain ⟨k, m, hk, rfl, rfl, hm, hlk, hB⟩ := hrel
    by_cases hkn : k < n
    · have hki : (k : Int) < (n : Int) := by omega
      have hk0 : (0 : Int) ≤ (k : Int) := by omega
      obtain ⟨r, hrk⟩ : ∃ r, rs[k]? = some r := ⟨_, List.getElem?_eq_getElem (by rw [hln.out]; exact hkn)⟩
      have hTr := HT.out.keep hB.out
      obtain ⟨b, off, rfl, hlt, hc⟩ := RdI.lt hTr.rd (by intro h; rw [h] at hrk; simp at hrk)
      obtain ⟨x6, xr⟩ := hc k r hrk
      have hsm := hTr.small r (List.mem_of_getElem? hrk)
      have hes := hsm.ents
      have hnx : Hid (∀ q : Nat, q = linksIn r.D x → linksD ((rs.map InoR.D).take (k + 1)) x = m + q) := by
        intro q hq
        rw [linksD_snoc _ _ _ r.D (by simp [hrk]), hlk.out, hq]
      have hle := linksIn_le r.D x
      obtain ⟨es, hes'⟩ : ∃ es, r.D.ents = es := ⟨_, rfl⟩
      have hre : RdP wr r.a2 (eP es) := by rw [← hes']; exact xr.ents
      obtain ⟨x0, x1, x2, x3, x4, x5⟩ := x6
      rw [hes'] at x4 hes hle
      have hli : Hid (linksIn r.D x = if r.D.kind = 2 then cntE es x else 0) := by show _ = _; unfold linksIn cntE; rw [hes']
      obtain ⟨n2, hn2⟩ : ∃ n2, es.length = n2 := ⟨_, rfl⟩
      rw [hn2] at x4 hes hle
      have HN : Hid _ := hn2
      generalize r.D.ino = i1 at x0
      generalize r.D.kind = i2 at x1 hli
      generalize r.D.links = i3 at x2
      generalize r.D.data.length = n1 at x3
      generalize r.D.attrs.length = n3 at x5
      have bx := Blk.new wr 85 #[.int .i64 i1, .int .i64 i2, .int .i64 i3, .slice r.a1 n1 r.c1, .slice r.a2 n2 r.c2, .slice r.a3 n3 r.c3]
      have hbA : Below wr.heap.size wr (wr.alloc (.cells #[.int .i64 i1, .int .i64 i2, .int .i64 i3, .slice r.a1 n1 r.c1, .slice r.a2 n2 r.c2, .slice r.a3 n3 r.c3] 85)) := (Below.refl _ wr).alloc (Nat.le_refl _) _
      have HE : Hid _ := RdP.keep hre hbA
      have HBA : Hid (Below W0.heap.size W0 (wr.alloc (.cells #[.int .i64 i1, .int .i64 i2, .int .i64 i3, .slice r.a1 n1 r.c1, .slice r.a2 n2 r.c2, .slice r.a3 n3 r.c3] 85))) := hB.out.trans (hbA.mono hB.out.size)
      have y1 := bx.cell 1
      have y4 := bx.cell 4
      simp at y1 y4
      clear hc xr hsm hrk hlk hes' hn2 hre hTr bx hbA
      by_cases hk2 : i2 = 2
      · subst hk2
        have hlq : Hid (linksIn r.D x = cntE es x) := by show _ = _; rw [hli.out, if_pos rfl]
        go_wp2
        obtain ⟨Wb, hWb⟩ : ∃ W, wr.alloc (.cells #[.int .i64 i1, .int .i64 2, .int .i64 i3, .slice r.a1 n1 r.c1, .slice r.a2 n2 r.c2, .slice r.a3 n3 r.c3] 85) = W := ⟨_, rfl⟩
        rw [hWb] at HE HBA ⊢
        clear hWb y1 y4 x0 x1 x2 x3 x4 x5
        go_loopw [5, 23] (fun c j wi => ∃ p q : Nat, p ≤ n2 ∧ j = .int .i64 p ∧ c = .int .i64 ((m + q : Nat) : Int) ∧ q ≤ p ∧ Hid (cntE (es.take p) x = q) ∧ Hid (Below Wb.heap.size Wb wi)) (fun _ j _ => n2 - (intOf j).toNat)
        case atStart => exact ⟨0, 0, Nat.zero_le _, rfl, rfl, Nat.zero_le _, rfl, Below.refl _ _⟩
        case round =>
          obtain ⟨p, q, hp, rfl, rfl, hq, hcq, hBi⟩ := hrel
          by_cases hpn : p < n2
          · have hpi : (p : Int) < (n2 : Int) := by omega
            have hp0 : (0 : Int) ≤ (p : Int) := by omega
            have hpl : p < es.length := by rw [HN.out]; exact hpn
            obtain ⟨eb, eo, hea, helt, hec⟩ := RdP.lt (RdP.keep HE.out hBi.out) (by intro h; have := congrArg List.length h; rw [eP_length] at this; simp at this; rw [this] at hpl; simp at hpl)
            have hx := hec p (by rw [eP_length]; exact hpl)
            rw [eP_at es p hpl] at hx
            obtain ⟨zn, hz⟩ : ∃ z, es[p].1 = z := ⟨_, rfl⟩
            obtain ⟨u, hu⟩ : ∃ u, es[p].2 = u := ⟨_, rfl⟩
            have hsn := cntE_snoc es x p es[p] (List.getElem?_eq_getElem hpl)
            rw [hz, hu] at hx
            rw [hu, hcq.out] at hsn
            obtain ⟨x1, x2⟩ := hx
            dsimp only at x1 x2
            rw [hea]
            have bA : Below wr.heap.size wr (wr.alloc (.cells #[.string zn, .int .i64 u] 88)) := (Below.refl _ wr).alloc (Nat.le_refl _) _
            have HBI : Hid (Below Wb.heap.size Wb (wr.alloc (.cells #[.string zn, .int .i64 u] 88))) := hBi.out.trans (bA.mono hBi.out.size)
            clear hec hz hu hcq bA
            by_cases hux : u = x
            · have hub : (u == x) = true := by simp [hux]
              have hs1 : Hid (cntE (es.take (p + 1)) x = q + 1) := by show _ = _; rw [hsn, if_pos hux]
              subst hux
              clear hsn
              go_wp2
              go_roundw
              case rel => exact ⟨p + 1, q + 1, by omega, by go_num, by go_num, by omega, hs1, HBI⟩
              case measure => simp [intOf]; omega
            · have hub : (u == x) = false := by simpa using hux
              have hs1 : Hid (cntE (es.take (p + 1)) x = q) := by show _ = _; rw [hsn, if_neg hux]; rfl
              clear hsn
              go_wp2
              go_roundw
              case rel => exact ⟨p + 1, q, by omega, by go_num, by go_num, by omega, hs1, HBI⟩
              case measure => simp [intOf]; omega
          · have hpi : ¬ (p : Int) < (n2 : Int) := by omega
            have hfin : Hid (linksD ((rs.map InoR.D).take (k + 1)) x = m + q) := by
              refine hnx.out q ?_
              rw [hlq.out, ← hcq.out, List.take_of_length_le (by rw [HN.out]; omega)]
            have hB2 : Hid _ := HBA.out.trans (hBi.out.mono HBA.out.size)
            go_wp2
            go_roundw
            case rel => exact ⟨k + 1, m + q, by omega, by go_num, by go_num, by omega, hfin, hB2⟩
            case measure => simp [intOf]; omega
      · have hkb : (i2 == 2) = false := by simpa using hk2
        have hkc : (i2 != 2) = true := by simpa using hk2
        have hfin : Hid (linksD ((rs.map InoR.D).take (k + 1)) x = m) := by
          have := hnx.out 0 (by rw [hli.out, if_neg hk2])
          show _ = _
          simpa using this
        go_wp2
        go_roundw
        case rel => exact ⟨k + 1, m, by omega, by go_num, rfl, Nat.le_trans hm (Nat.mul_le_mul_right _ (Nat.le_succ k)), hfin, HBA⟩
        case measure => simp [intOf]; omega
    · have hki : ¬ (k : Int) < (n : Int) := by omega
      have hend : Hid ((m : Int) = (R : Int)) := by
        have h1 := hlk.out
        rw [List.take_of_length_le (by rw [List.length_map, hln.out]; omega), HR.out] at h1
        show _ = _
        rw [h1]
      have hfb : Hid _ := HB.out.trans (hB.out.mono HB.out.size)
      go_wp2
      go_ret
      exact ⟨ret_int hend.out, hfb.out⟩
end

section
open Go.RowKit
theorem inoOk_pos {D : InoD} (h : inoOk D = true) : 1 ≤ D.ino := by
  rw [inoOk_parts] at h
  simp only [Bool.and_eq_true, decide_eq_true_eq] at h
  exact h.1.1.1.1.1
theorem asc_ge {xs : List Int} (h : ascN xs = true) (hp : ∀ x ∈ xs, 1 ≤ x) (k : Nat) (hk : k < xs.length) : (k : Int) + 1 ≤ xs.getD k 0 := by
  unfold ascN at h
  rw [List.all_eq_true] at h
  induction k with
  | zero =>
    have : xs.getD 0 0 ∈ xs := by
      rw [List.getD_eq_getElem?_getD, List.getElem?_eq_getElem hk]
      exact List.getElem_mem hk
    have := hp _ this
    omega
  | succ k ih =>
    have h1 := ih (by omega)
    have h2 := h (k + 1) (List.mem_range.2 hk)
    simp only [Nat.add_sub_cancel, Nat.add_eq_zero_iff, Nat.one_ne_zero, and_false, decide_false, Bool.false_or, decide_eq_true_eq] at h2
    omega
theorem steps_all (nx : Int) (rs : List InoR) : (List.range rs.length).all (stepT nx rs) = (rs.all (goodR nx) && ascN (inos rs)) := by
  rw [Bool.eq_iff_iff]
  simp only [List.all_eq_true, Bool.and_eq_true, List.mem_range]
  have hat : ∀ i, i < rs.length → rs.getD i inoZ ∈ rs ∧ (inos rs).getD i 0 = (rs.getD i inoZ).D.ino := fun i hi => by
    rw [List.getD_eq_getElem?_getD, List.getElem?_eq_getElem hi]
    refine ⟨List.getElem_mem hi, ?_⟩
    exact inos_at (List.getElem?_eq_getElem hi)
  constructor
  · intro h
    refine ⟨fun r hr => ?_, ?_⟩
    · obtain ⟨i, hi, rfl⟩ := List.mem_iff_getElem.1 hr
      have h1 := h i hi
      unfold stepT at h1
      rw [show rs.getD i inoZ = rs[i] by simp [List.getD_eq_getElem?_getD, hi]] at h1
      simp only [Bool.and_eq_true] at h1
      unfold goodR
      rw [h1.1, h1.2.1]
      rfl
    · unfold ascN
      rw [List.all_eq_true]
      intro i hi
      rw [List.mem_range, inos_length] at hi
      have h1 := h i hi
      unfold stepT at h1
      simp only [Bool.and_eq_true] at h1
      rw [(hat i hi).2, (hat (i - 1) (by omega)).2]
      exact h1.2.2
  · rintro ⟨hg, ha⟩ i hi
    have h1 := hg _ (hat i hi).1
    unfold goodR at h1
    simp only [Bool.and_eq_true] at h1
    unfold ascN at ha
    rw [List.all_eq_true] at ha
    have h2 := ha i (by rw [List.mem_range, inos_length]; exact hi)
    rw [(hat i hi).2, (hat (i - 1) (by omega)).2] at h2
    unfold stepT
    rw [h1.1, h1.2, h2]
    rfl
theorem tab_same (nx : Int) (rs : List InoR) : tabI nx rs = tabS nx rs := by
  unfold tabI tabS
  rw [steps_all]
  cases hg : rs.all (goodR nx) with
  | false => simp
  | true =>
    cases ha : ascN (inos rs) with
    | false => simp
    | true =>
      have hpos : ∀ x ∈ inos rs, 1 ≤ x := fun x hx => by
        obtain ⟨r, hr, rfl⟩ := List.mem_map.1 hx
        have := List.all_eq_true.1 hg r hr
        unfold goodR at this
        simp only [Bool.and_eq_true] at this
        exact inoOk_pos this.1
      cases hf : firstAt (inos rs) 1 with
      | none =>
        have hno : ¬ (1 ≤ rs.length ∧ (rs.getD 0 inoZ).D.ino = 1) := by
          rintro ⟨h1, h2⟩
          unfold firstAt at hf
          rw [List.findIdx?_eq_none_iff] at hf
          have hm : (rs.getD 0 inoZ).D.ino ∈ inos rs := by
            rw [List.getD_eq_getElem?_getD, List.getElem?_eq_getElem (show 0 < rs.length by omega)]
            exact List.mem_map_of_mem (List.getElem_mem _)
          have := hf _ hm
          rw [h2] at this
          simp at this
        simp only [Bool.false_and, Bool.and_false, Bool.true_and]
        symm
        by_cases h1 : 1 ≤ rs.length
        · have h2 : ¬ (rs.getD 0 inoZ).D.ino = 1 := fun h => hno ⟨h1, h⟩
          rw [decide_eq_false h2]
          simp
        · rw [decide_eq_false h1]
          simp
      | some p =>
        have hp := firstAt_lt hf
        have hp0 : p = 0 := by
          have h1 := asc_ge ha hpos p (by rw [inos_length]; exact hp)
          unfold firstAt at hf
          obtain ⟨h2, h3, _⟩ := List.findIdx?_eq_some_iff_getElem.1 hf
          simp at h3
          rw [List.getD_eq_getElem?_getD, List.getElem?_eq_getElem h2, Option.getD_some, h3] at h1
          omega
        subst hp0
        have hone : (rs.getD 0 inoZ).D.ino = 1 := by
          unfold firstAt at hf
          obtain ⟨h2, h3, _⟩ := List.findIdx?_eq_some_iff_getElem.1 hf
          simp only [beq_iff_eq] at h3
          rw [← h3]
          simp [inos, List.getD_eq_getElem?_getD, hp]
        rw [decide_eq_true (show 1 ≤ rs.length by omega), decide_eq_true hone]
        simp
        cases decide (rs.length ≤ 30) <;> cases decide (2 ≤ nx) <;> cases decide (nx ≤ 1000) <;> simp
end

section
open Go.RowKit Go.Maps
theorem entAt_num {es : List (ByteArray × Int)} (h : entsOk es = true) : ∀ e ∈ es, 2 ≤ e.2 ∧ e.2 ≤ 1000 := by
  intro e he
  obtain ⟨k, hk⟩ := List.getElem?_of_mem he
  have hl := (List.getElem?_eq_some_iff.1 hk).1
  unfold entsOk at h
  simp only [Bool.and_eq_true, List.all_eq_true, List.mem_range] at h
  have h1 := h.1 k hl
  unfold entAt at h1
  have hg : es.getD k entD = e := by rw [List.getD_eq_getElem?_getD, hk]; rfl
  rw [hg] at h1
  simp only [Bool.and_eq_true, decide_eq_true_eq] at h1
  exact h1.1.2
theorem tab_wf {nx : Int} {ds : List InoD} (h : tabD nx ds = true) : ∀ D ∈ ds, ∀ e ∈ D.ents, (Lit.int .i64 e.2).wf = true := by
  intro D hD e he
  have h1 := ((tabD_ok h).2.2.2.2.1 D hD).1
  have h2 := entAt_num (ok_parts h1).2.2.1 e he
  obtain ⟨k, hk⟩ : ∃ k : Nat, e.2 = (k : Int) := ⟨e.2.toNat, by omega⟩
  rw [hk]
  exact WalkArith.wf_i64 (by omega)
/-- Each inode has as many links as entries lead to it. -/
def linkedD (ds l : List InoD) : Bool := l.all fun D => decide ((linksD ds D.ino : Int) = D.links)
theorem treeD_split (nx : Int) (ds : List InoD) : treeD nx ds = (tabD nx ds && (linkedD ds ds && (decide ((reachD ds).length = ds.length) && leadD ds))) := by
  unfold treeD linkedD leadD
  have : (ds.all fun D => decide ((linksD ds D.ino : Int) = D.links) && D.ents.all fun e => (look ds e.2).isSome) = ((ds.all fun D => decide ((linksD ds D.ino : Int) = D.links)) && ds.all fun D => D.ents.all (goodE ds)) := by
    rw [Bool.eq_iff_iff]
    simp only [Bool.and_eq_true, List.all_eq_true]
    constructor
    · exact fun h => ⟨fun D hD => (h D hD).1, fun D hD e he => (h D hD).2 e he⟩
    · exact fun h D hD => ⟨h.1 D hD, fun e he => h.2 D hD e he⟩
  rw [this]
  cases tabD nx ds <;> cases decide ((reachD ds).length = ds.length) <;> cases (ds.all fun D => decide ((linksD ds D.ino : Int) = D.links)) <;> rfl
set_option maxRecDepth 100000 in
set_option maxHeartbeats 4000000 in
theorem treeI (a : Option Addr) (n cap : Nat) (nx : Int) (rs : List InoR) (w : World) (ht : TR w a n rs) (hwf : ∀ r ∈ rs, (Lit.int .i64 r.D.ino).wf = true) :
    Calls Tryz.prog 80 #[.agg #[.slice a n cap, .int .i64 nx]] w fun e w' => e = .returned (.bool (treeD nx (rs.map InoR.D))) ∧ Below w.heap.size w w' := by
  have B0 : Below w.heap.size w (w.alloc (.cells #[.slice a n cap, .int .i64 nx] 47)) := (Below.refl _ w).alloc (Nat.le_refl _) _
  have z0 := Blk.new w 47 #[.slice a n cap, .int .i64 nx]
  have hcT := tabOkI a n cap nx rs _ ht.len (by have := ht.n; omega) hwf ht.small (ht.rd.keep B0)
  rw [tab_same, tabS_D] at hcT
  obtain ⟨ds, hds⟩ : ∃ ds, rs.map InoR.D = ds := ⟨_, rfl⟩
  rw [hds] at hcT ⊢
  have HDS : Hid _ := hds
  have hdl : Hid (ds.length = n) := by show _ = _; rw [← hds, List.length_map, ht.len]
  obtain ⟨R, hR⟩ : ∃ R, treeD nx ds = R := ⟨_, rfl⟩
  rw [hR]
  rw [treeD_split, hdl.out] at hR
  have HT : Hid _ := ht
  have HW : Hid _ := hwf
  have hn1 := ht.n
  clear ht hwf hds
  cases htab : tabD nx ds with
  | false =>
    rw [htab] at hcT hR
    have hend : Hid (false = R) := hR
    clear hR htab
    go_enter Tryz.func80, Tryz.ntmps80
    go_wp2_with fail
    (with_reducible refine hcT.mono ?_)
    rintro e w1 ⟨rfl, b1⟩
    have B1 := B0.trans (b1.mono B0.size)
    clear z0 hcT
    go_wp2
    go_ret
    exact ⟨ret_bool hend.out, B1⟩
  | true =>
    have hwe : ∀ r ∈ rs, ∀ e ∈ r.D.ents, (Lit.int .i64 e.2).wf = true := fun r hr => tab_wf htab r.D (by rw [← HDS.out]; exact List.mem_map_of_mem hr)
    have HE : Hid _ := hwe
    rw [htab] at hcT hR
    rw [Bool.true_and] at hR
    have HR : Hid ((linkedD ds (ds.drop 0) && (decide ((reachD ds).length = n) && leadD ds)) = R) := hR
    clear hR htab hwe
    go_enter Tryz.func80, Tryz.ntmps80
    go_wp2_with fail
    (with_reducible refine hcT.mono ?_)
    rintro e w1 ⟨rfl, b1⟩
    have B1 := B0.trans (b1.mono B0.size)
    have z1 := z0.keep b1
    have t0 := z1.cell 0
    simp at t0
    clear z0 hcT B0 b1
    have HZ : Hid _ := z1
    have HB1 : Hid _ := B1
    clear z1 B1
    go_wp2
    clear t0
    go_loopw [11] (fun i wr => ∃ k : Nat, k ≤ n ∧ i = .int .i64 k ∧ Hid ((linkedD ds (ds.drop k) && (decide ((reachD ds).length = n) && leadD ds)) = R) ∧ Hid (Below w1.heap.size w1 wr)) (fun i _ => n - (intOf i).toNat)
    case atStart => exact ⟨0, Nat.zero_le _, rfl, HR, Below.refl _ _⟩
    case round =>
      obtain ⟨k, hk, rfl, hall, hB⟩ := hrel
      obtain ⟨U, hU⟩ : ∃ U, U = wr := ⟨_, rfl⟩
      subst hU
      clear HR
      have zU := Blk.keep HZ.out hB.out
      have t0 := zU.cell 0
      have t1 := zU.cell 1
      simp at t0 t1
      have hTr := HT.out.keep (HB1.out.trans (hB.out.mono HB1.out.size))
      by_cases hkn : k < n
      · have hki : (k : Int) < (n : Int) := by omega
        have hk0 : (0 : Int) ≤ (k : Int) := by omega
        obtain ⟨r, hrk⟩ : ∃ r, rs[k]? = some r := ⟨_, List.getElem?_eq_getElem (by rw [hTr.len]; exact hkn)⟩
        obtain ⟨b, off, rfl, hlt, hc⟩ := RdI.lt hTr.rd (by intro h; rw [h] at hrk; simp at hrk)
        obtain ⟨x6, xr⟩ := hc k r hrk
        obtain ⟨x0, x1, x2, x3, x4, x5⟩ := x6
        have hall' := hall.out
        unfold linkedD at hall'
        rw [all_drop (x := r.D) _ (by rw [← HDS.out]; simp [hrk])] at hall'
        generalize r.D.ino = i1 at x0 hall'
        generalize r.D.kind = i2 at x1
        generalize r.D.links = i3 at x2 hall'
        generalize r.D.data.length = n1 at x3
        generalize r.D.ents.length = n2 at x4
        generalize r.D.attrs.length = n3 at x5
        obtain ⟨V, hV⟩ : ∃ V, U.alloc (.cells #[.int .i64 i1, .int .i64 i2, .int .i64 i3, .slice r.a1 n1 r.c1, .slice r.a2 n2 r.c2, .slice r.a3 n3 r.c3] 85) = V := ⟨_, rfl⟩
        have bx := Blk.new U 85 #[.int .i64 i1, .int .i64 i2, .int .i64 i3, .slice r.a1 n1 r.c1, .slice r.a2 n2 r.c2, .slice r.a3 n3 r.c3]
        have hbA : Below U.heap.size U (U.alloc (.cells #[.int .i64 i1, .int .i64 i2, .int .i64 i3, .slice r.a1 n1 r.c1, .slice r.a2 n2 r.c2, .slice r.a3 n3 r.c3] 85)) := (Below.refl _ U).alloc (Nat.le_refl _) _
        rw [hV] at bx hbA
        have zV := zU.keep hbA
        have hcK := linksI (some ⟨b, off, none⟩) n cap nx i1 rs V.drew (hTr.keep hbA.drew)
        rw [HDS.out] at hcK
        have hKK : Hid (∀ W : World, Below V.heap.size V W → W.cell? ⟨w.heap.size, 0, none⟩ = some (.slice (some ⟨b, off, none⟩) n cap) ∧ W.cell? ⟨w.heap.size, 1, none⟩ = some (.int .i64 nx) ∧ W.cell? ⟨U.heap.size, 0, none⟩ = some (.int .i64 i1) ∧ W.cell? ⟨U.heap.size, 2, none⟩ = some (.int .i64 i3)) := fun W hW => ⟨(zV.keep hW).cell 0, (zV.keep hW).cell 1, (bx.keep hW).cell 0, (bx.keep hW).cell 2⟩
        have HBA : Hid _ := hB.out.trans (hbA.mono hB.out.size)
        generalize linksD ds i1 = lk at hcK hall'
        clear hc hrk xr bx hbA hall hTr zU zV
        by_cases hlk : i3 = (lk : Int)
        · have hlb : (i3 != (lk : Int)) = false := by simp [hlk]
          have hlb' : (i3 == (lk : Int)) = true := by simp [hlk]
          rw [decide_eq_true hlk.symm, Bool.true_and] at hall'
          have hnx : Hid _ := hall'
          clear hlk hall'
          go_upto_region 6 with fail
          clear hV
          obtain ⟨g0, g1, g2, g3⟩ := hKK.out _ (Below.refl _ _)
          go_region_held3 (fun W : World => W.cell? ⟨w.heap.size, 0, none⟩ = some (.slice (some ⟨b, off, none⟩) n cap) ∧ W.cell? ⟨w.heap.size, 1, none⟩ = some (.int .i64 nx) ∧ W.cell? ⟨U.heap.size, 0, none⟩ = some (.int .i64 i1) ∧ W.cell? ⟨U.heap.size, 2, none⟩ = some (.int .i64 i3)) (go_keep) ((go_at_call 103; (with_reducible refine hcK.mono ?_); rintro e w2 ⟨rfl, hb2⟩; obtain ⟨p0, p1, p2, p3⟩ := hKK.out w2 ((Below.refl _ _).drew.trans hb2)))
          have hB2 : Hid (Below w1.heap.size w1 w2) := HBA.out.trans (((Below.refl _ _).drew.trans hb2).mono HBA.out.size)
          clear p0 p1 p2 p3 g0 g1 g2 g3 t0 t1 x0 x1 x2 x3 x4 x5 hcK hb2
          go_wp2
          go_roundw
          case rel => exact ⟨k + 1, by omega, by go_num, hnx, hB2⟩
          case measure => simp [intOf]; omega
        · have hlb : (i3 != (lk : Int)) = true := by simpa using hlk
          have hlb' : (i3 == (lk : Int)) = false := by simpa using hlk
          rw [decide_eq_false (fun h => hlk h.symm), Bool.false_and, Bool.false_and] at hall'
          have hend : Hid (false = R) := hall'
          clear hlk hall'
          go_upto_region 6 with fail
          clear hV
          obtain ⟨g0, g1, g2, g3⟩ := hKK.out _ (Below.refl _ _)
          go_region_held3 (fun W : World => W.cell? ⟨w.heap.size, 0, none⟩ = some (.slice (some ⟨b, off, none⟩) n cap) ∧ W.cell? ⟨w.heap.size, 1, none⟩ = some (.int .i64 nx) ∧ W.cell? ⟨U.heap.size, 0, none⟩ = some (.int .i64 i1) ∧ W.cell? ⟨U.heap.size, 2, none⟩ = some (.int .i64 i3)) (go_keep) ((go_at_call 103; (with_reducible refine hcK.mono ?_); rintro e w2 ⟨rfl, hb2⟩; obtain ⟨p0, p1, p2, p3⟩ := hKK.out w2 ((Below.refl _ _).drew.trans hb2)))
          have hB2 : Hid (Below w.heap.size w w2) := HB1.out.trans ((HBA.out.trans (((Below.refl _ _).drew.trans hb2).mono HBA.out.size)).mono HB1.out.size)
          clear p0 p1 p2 p3 g0 g1 g2 g3 t0 t1 x0 x1 x2 x3 x4 x5 hcK hb2
          go_wp2
          go_ret
          exact ⟨ret_bool hend.out, hB2.out⟩
      · have hki : ¬ (k : Int) < (n : Int) := by omega
        have hall' := hall.out
        rw [List.drop_of_length_le (by rw [hdl.out]; omega)] at hall'
        have hR2 : Hid ((decide ((reachD ds).length = n) && leadD ds) = R) := hall'
        clear hall hall'
        have HBU : Hid (Below w.heap.size w U) := HB1.out.trans (hB.out.mono HB1.out.size)
        have hcR := reachedI a n cap nx rs U.drew (hTr.keep (Below.refl _ _).drew) HW.out HE.out
        have HCL : Hid _ := fun (W : World) (hW : Below U.heap.size U W) => leadI a n cap nx rs W (hTr.keep hW) HW.out HE.out
        have HK : Hid (∀ W : World, Below U.heap.size U W → W.cell? ⟨w.heap.size, 0, none⟩ = some (.slice a n cap) ∧ W.cell? ⟨w.heap.size, 1, none⟩ = some (.int .i64 nx)) := fun W hW => ⟨(zU.keep hW).cell 0, (zU.keep hW).cell 1⟩
        rw [HDS.out] at hcR HCL
        clear hTr zU
        obtain ⟨m, hm⟩ : ∃ m, (reachD ds).length = m := ⟨_, rfl⟩
        have hcR' : Calls Tryz.prog 104 #[.agg #[.slice a n cap, .int .i64 nx]] U.drew fun e w' => ∃ a' c', e = .returned (.slice a' m c') ∧ Below U.heap.size U w' := by
          refine hcR.mono fun e w' hp => ?_
          obtain ⟨v, rfl, ho, hb⟩ := hp
          rw [hm] at ho
          obtain ⟨a', c', rfl⟩ := ownShape ho
          exact ⟨a', c', rfl, (Below.refl _ U).drew.trans hb⟩
        clear hcR
        rw [hm] at hR2
        clear hm
        by_cases hmn : m = n
        · have hmb : ((m : Int) != (n : Int)) = false := by simp [hmn]
          have hmb' : ((m : Int) == (n : Int)) = true := by simp [hmn]
          have hmi : (m : Int) = (n : Int) := by omega
          have hR3 := hR2.out
          rw [decide_eq_true hmn, Bool.true_and] at hR3
          have HR3 : Hid _ := hR3
          clear hR2 hR3 hmn
          go_upto_region 9 with fail
          refine wp_region_noPanic ?_
          refine wp_region_held_drew (S := fun W : World => W.cell? ⟨w.heap.size, 0, none⟩ = some (.slice a n cap) ∧ W.cell? ⟨w.heap.size, 1, none⟩ = some (.int .i64 nx)) (by kernel_rfl) (by go_keep) (fun hS => ?_)
          refine wpAnyH_take (i := 0) (v := ?gv1) rfl (by kernel_rfl) (by kernel_rfl) (by kernel_rfl) (fun _ _ _ h => h) (Or.inl ⟨by kernel_rfl, ?gy1⟩) (by assumption) ?gr1
          case gy1 => (intro w' hSw; (try dsimp only at hSw); go_simp; (try with_reducible rfl))
          try simp only [Act.put, List.setIfInBounds_toArray, List.set_cons_zero, List.set_cons_succ, List.getElem_toArray, List.getElem_cons_zero]
          refine wpAnyH_take (i := 3) (v := ?gv2) rfl (by kernel_rfl) (by kernel_rfl) (by kernel_rfl) (fun _ _ _ h => h) (Or.inl ⟨by kernel_rfl, ?gy2⟩) (by assumption) ?gr2
          case gy2 => (intro w' hSw; (try dsimp only at hSw); go_simp; (try with_reducible rfl))
          try simp only [Act.put, List.setIfInBounds_toArray, List.set_cons_zero, List.set_cons_succ, List.getElem_toArray, List.getElem_cons_succ, List.getElem_cons_zero]
          refine wpAnyH_take (i := 4) (v := ?gv3) rfl (by kernel_rfl) (by kernel_rfl) (by kernel_rfl) (fun _ _ _ h => h) (Or.inl ⟨by kernel_rfl, ?gy3⟩) (by assumption) ?gr3
          case gy3 => (intro w' hSw; (try dsimp only at hSw); go_simp; (try with_reducible rfl))
          try simp only [Act.put, List.setIfInBounds_toArray, List.set_cons_zero, List.set_cons_succ, List.getElem_toArray, List.getElem_cons_succ, List.getElem_cons_zero]
          refine wpAnyH_take (i := 5) (v := ?gv4) rfl (by kernel_rfl) (by kernel_rfl) (by kernel_rfl) (fun _ _ _ h => h) (Or.inl ⟨by kernel_rfl, ?gy4⟩) (by assumption) ?gr4
          case gy4 => (intro w' hSw; (try dsimp only at hSw); go_simp; (try with_reducible rfl))
          try simp only [Act.put, List.setIfInBounds_toArray, List.set_cons_zero, List.set_cons_succ, List.getElem_toArray, List.getElem_cons_succ, List.getElem_cons_zero]
          refine wpAnyH_ready (rs := [1]) (by kernel_rfl) (by simp) ?_
          refine AllReadyH.cons rfl (fun K hK => ?_) AllReadyH.nil
          go_simp
          go_at_call 104
          (with_reducible refine hcR'.mono ?_)
          rintro e w3 ⟨ra, rc, rfl, B3⟩
          clear hS
          dsimp only
          refine Shut.out hK _ _ (HK.out w3 B3) (fun hS => ?_)
          try simp only [Act.put, List.setIfInBounds_toArray, List.set_cons_zero, List.set_cons_succ, List.getElem_toArray, List.getElem_cons_succ, List.getElem_cons_zero]
          refine wpAnyH_take (i := 2) (v := ?gv5) rfl (by kernel_rfl) (by kernel_rfl) (by kernel_rfl) (fun _ _ _ h => h) (Or.inl ⟨by kernel_rfl, ?gy5⟩) (by assumption) ?gr5
          case gy5 => (intro w' hSw; (try dsimp only at hSw); go_simp; (try with_reducible rfl))
          try simp only [Act.put, List.setIfInBounds_toArray, List.set_cons_zero, List.set_cons_succ, List.getElem_toArray, List.getElem_cons_succ, List.getElem_cons_zero]
          refine wpAnyH_take (i := 6) (v := ?gv6) rfl (by kernel_rfl) (by kernel_rfl) (by kernel_rfl) (fun _ _ _ h => h) (Or.inl ⟨by kernel_rfl, ?gy6⟩) (by assumption) ?gr6
          case gy6 => (intro w' hSw; (try dsimp only at hSw); go_simp; (try with_reducible rfl))
          try simp only [Act.put, List.setIfInBounds_toArray, List.set_cons_zero, List.set_cons_succ, List.getElem_toArray, List.getElem_cons_succ, List.getElem_cons_zero]
          refine wpAnyH_take (i := 7) (v := ?gv7) rfl (by kernel_rfl) (by kernel_rfl) (by kernel_rfl) (fun _ _ _ h => h) (Or.inl ⟨by kernel_rfl, ?gy7⟩) (by assumption) ?gr7
          case gy7 => (intro w' hSw; (try dsimp only at hSw); go_simp; (try with_reducible rfl))
          try simp only [Act.put, List.setIfInBounds_toArray, List.set_cons_zero, List.set_cons_succ, List.getElem_toArray, List.getElem_cons_succ, List.getElem_cons_zero]
          refine wpAnyH_take (i := 8) (v := ?gv8) rfl (by kernel_rfl) (by kernel_rfl) (by kernel_rfl) (fun _ _ _ h => h) (Or.inl ⟨by kernel_rfl, ?gy8⟩) (by assumption) ?gr8
          case gy8 => (intro w' hSw; (try dsimp only at hSw); go_simp; (try with_reducible rfl))
          try simp only [Act.put, List.setIfInBounds_toArray, List.set_cons_zero, List.set_cons_succ, List.getElem_toArray, List.getElem_cons_succ, List.getElem_cons_zero]
          refine wpAnyH_ready (rs := [9]) (by kernel_rfl) (by simp) ?_
          refine AllReadyH.cons rfl (fun K hK => ?_) AllReadyH.nil
          go_simp
          go_at_call 105
          (with_reducible refine (HCL.out w3 B3).mono ?_)
          rintro e w4 ⟨rfl, b4⟩
          have B4 : Below U.heap.size U w4 := B3.trans (b4.mono B3.size)
          clear hS
          dsimp only
          refine Shut.out hK _ _ (HK.out w4 B4) (fun hS => ?_)
          try simp only [Act.put, List.setIfInBounds_toArray, List.set_cons_zero, List.set_cons_succ, List.getElem_toArray, List.getElem_cons_succ, List.getElem_cons_zero]
          refine wpAnyH_take (i := 10) (v := ?gv9) rfl (by kernel_rfl) (by kernel_rfl) (by kernel_rfl) (fun _ _ _ h => h) (Or.inl ⟨by kernel_rfl, ?gy9⟩) (by assumption) ?gr9
          case gy9 => (intro w' hSw; (try dsimp only at hSw); go_simp; (try with_reducible rfl))
          try simp only [Act.put, List.setIfInBounds_toArray, List.set_cons_zero, List.set_cons_succ, List.getElem_toArray, List.getElem_cons_succ, List.getElem_cons_zero]
          refine wpAnyH_take (i := 11) (v := ?gv10) rfl (by kernel_rfl) (by kernel_rfl) (by kernel_rfl) (fun _ _ _ h => h) (Or.inl ⟨by kernel_rfl, ?gy10⟩) (by assumption) ?gr10
          case gy10 => (intro w' hSw; (try dsimp only at hSw); go_simp; (try with_reducible rfl))
          try simp only [Act.put, List.setIfInBounds_toArray, List.set_cons_zero, List.set_cons_succ, List.getElem_toArray, List.getElem_cons_succ, List.getElem_cons_zero]
          refine wpAnyH_done (by kernel_rfl) (NoPanic.normal ?_) _
          clear t0 t1 hcR'
          have hfb : Hid _ := HBU.out.trans (B4.mono HBU.out.size)
          go_wp2
          go_ret
          exact ⟨ret_bool HR3.out, hfb.out⟩
        · have hmb : ((m : Int) != (n : Int)) = true := by simp; omega
          have hmb' : ((m : Int) == (n : Int)) = false := by simp; omega
          have hmi : ¬ (m : Int) = (n : Int) := by omega
          have hR3 := hR2.out
          rw [decide_eq_false hmn, Bool.false_and] at hR3
          have HR3 : Hid (false = R) := hR3
          clear hR2 hR3 hmn
          go_upto_region 9 with fail
          refine wp_region_noPanic ?_
          refine wp_region_held_drew (S := fun W : World => W.cell? ⟨w.heap.size, 0, none⟩ = some (.slice a n cap) ∧ W.cell? ⟨w.heap.size, 1, none⟩ = some (.int .i64 nx)) (by kernel_rfl) (by go_keep) (fun hS => ?_)
          refine wpAnyH_take (i := 0) (v := ?gv11) rfl (by kernel_rfl) (by kernel_rfl) (by kernel_rfl) (fun _ _ _ h => h) (Or.inl ⟨by kernel_rfl, ?gy11⟩) (by assumption) ?gr11
          case gy11 => (intro w' hSw; (try dsimp only at hSw); go_simp; (try with_reducible rfl))
          try simp only [Act.put, List.setIfInBounds_toArray, List.set_cons_zero, List.set_cons_succ, List.getElem_toArray, List.getElem_cons_zero]
          refine wpAnyH_take (i := 3) (v := ?gv12) rfl (by kernel_rfl) (by kernel_rfl) (by kernel_rfl) (fun _ _ _ h => h) (Or.inl ⟨by kernel_rfl, ?gy12⟩) (by assumption) ?gr12
          case gy12 => (intro w' hSw; (try dsimp only at hSw); go_simp; (try with_reducible rfl))
          try simp only [Act.put, List.setIfInBounds_toArray, List.set_cons_zero, List.set_cons_succ, List.getElem_toArray, List.getElem_cons_succ, List.getElem_cons_zero]
          refine wpAnyH_take (i := 4) (v := ?gv13) rfl (by kernel_rfl) (by kernel_rfl) (by kernel_rfl) (fun _ _ _ h => h) (Or.inl ⟨by kernel_rfl, ?gy13⟩) (by assumption) ?gr13
          case gy13 => (intro w' hSw; (try dsimp only at hSw); go_simp; (try with_reducible rfl))
          try simp only [Act.put, List.setIfInBounds_toArray, List.set_cons_zero, List.set_cons_succ, List.getElem_toArray, List.getElem_cons_succ, List.getElem_cons_zero]
          refine wpAnyH_take (i := 5) (v := ?gv14) rfl (by kernel_rfl) (by kernel_rfl) (by kernel_rfl) (fun _ _ _ h => h) (Or.inl ⟨by kernel_rfl, ?gy14⟩) (by assumption) ?gr14
          case gy14 => (intro w' hSw; (try dsimp only at hSw); go_simp; (try with_reducible rfl))
          try simp only [Act.put, List.setIfInBounds_toArray, List.set_cons_zero, List.set_cons_succ, List.getElem_toArray, List.getElem_cons_succ, List.getElem_cons_zero]
          refine wpAnyH_ready (rs := [1]) (by kernel_rfl) (by simp) ?_
          refine AllReadyH.cons rfl (fun K hK => ?_) AllReadyH.nil
          go_simp
          go_at_call 104
          (with_reducible refine hcR'.mono ?_)
          rintro e w3 ⟨ra, rc, rfl, B3⟩
          clear hS
          dsimp only
          refine Shut.out hK _ _ (HK.out w3 B3) (fun hS => ?_)
          try simp only [Act.put, List.setIfInBounds_toArray, List.set_cons_zero, List.set_cons_succ, List.getElem_toArray, List.getElem_cons_succ, List.getElem_cons_zero]
          refine wpAnyH_take (i := 2) (v := ?gv15) rfl (by kernel_rfl) (by kernel_rfl) (by kernel_rfl) (fun _ _ _ h => h) (Or.inl ⟨by kernel_rfl, ?gy15⟩) (by assumption) ?gr15
          case gy15 => (intro w' hSw; (try dsimp only at hSw); go_simp; (try with_reducible rfl))
          try simp only [Act.put, List.setIfInBounds_toArray, List.set_cons_zero, List.set_cons_succ, List.getElem_toArray, List.getElem_cons_succ, List.getElem_cons_zero]
          refine wpAnyH_take (i := 6) (v := ?gv16) rfl (by kernel_rfl) (by kernel_rfl) (by kernel_rfl) (fun _ _ _ h => h) (Or.inl ⟨by kernel_rfl, ?gy16⟩) (by assumption) ?gr16
          case gy16 => (intro w' hSw; (try dsimp only at hSw); go_simp; (try with_reducible rfl))
          try simp only [Act.put, List.setIfInBounds_toArray, List.set_cons_zero, List.set_cons_succ, List.getElem_toArray, List.getElem_cons_succ, List.getElem_cons_zero]
          refine wpAnyH_take (i := 7) (v := ?gv17) rfl (by kernel_rfl) (by kernel_rfl) (by kernel_rfl) (fun _ _ _ h => h) (Or.inl ⟨by kernel_rfl, ?gy17⟩) (by assumption) ?gr17
          case gy17 => (intro w' hSw; (try dsimp only at hSw); go_simp; (try with_reducible rfl))
          try simp only [Act.put, List.setIfInBounds_toArray, List.set_cons_zero, List.set_cons_succ, List.getElem_toArray, List.getElem_cons_succ, List.getElem_cons_zero]
          refine wpAnyH_take (i := 8) (v := undef) rfl (by kernel_rfl) (by kernel_rfl) (by kernel_rfl) (fun _ _ _ h => h) (Or.inr ⟨by kernel_rfl, rfl⟩) (by assumption) ?_
          try simp only [Act.put, List.setIfInBounds_toArray, List.set_cons_zero, List.set_cons_succ, List.getElem_toArray, List.getElem_cons_succ, List.getElem_cons_zero]
          refine wpAnyH_take (i := 9) (v := undef) rfl (by kernel_rfl) (by kernel_rfl) (by kernel_rfl) (fun _ _ _ h => h) (Or.inr ⟨by kernel_rfl, rfl⟩) (by assumption) ?_
          try simp only [Act.put, List.setIfInBounds_toArray, List.set_cons_zero, List.set_cons_succ, List.getElem_toArray, List.getElem_cons_succ, List.getElem_cons_zero]
          refine wpAnyH_take (i := 10) (v := ?gv18) rfl (by kernel_rfl) (by kernel_rfl) (by kernel_rfl) (fun _ _ _ h => h) (Or.inl ⟨by kernel_rfl, ?gy18⟩) (by assumption) ?gr18
          case gy18 => (intro w' hSw; (try dsimp only at hSw); go_simp; (try with_reducible rfl))
          try simp only [Act.put, List.setIfInBounds_toArray, List.set_cons_zero, List.set_cons_succ, List.getElem_toArray, List.getElem_cons_succ, List.getElem_cons_zero]
          refine wpAnyH_take (i := 11) (v := ?gv19) rfl (by kernel_rfl) (by kernel_rfl) (by kernel_rfl) (fun _ _ _ h => h) (Or.inl ⟨by kernel_rfl, ?gy19⟩) (by assumption) ?gr19
          case gy19 => (intro w' hSw; (try dsimp only at hSw); go_simp; (try with_reducible rfl))
          try simp only [Act.put, List.setIfInBounds_toArray, List.set_cons_zero, List.set_cons_succ, List.getElem_toArray, List.getElem_cons_succ, List.getElem_cons_zero]
          refine wpAnyH_done (by kernel_rfl) (NoPanic.normal ?_) _
          clear t0 t1 hcR'
          have hfb : Hid _ := HBU.out.trans (B3.mono HBU.out.size)
          go_wp2
          go_ret
          exact ⟨ret_bool HR3.out, hfb.out⟩
end
end Go.Proofs.YtfjlemnohjnkhaaGreat
