/-
  What the program's entriesLead answers.
-/
import Derived.Test.YtnadeelnjhollaaGreatTreeSV
import Derived.Test.YtnadeelnjhollaaGreatRMV
namespace Go.Proofs.YtnadeelnjhollaaGreat
open Go.RowKit Go.Maps
def leadD (ds : List InoD) : Bool := ds.all fun D => D.ents.all (goodE ds)
theorem firstAt_look (rs : List InoR) (x : Int) : (firstAt (inos rs) x).isSome = (look (rs.map InoR.D) x).isSome := by
  have h2 := atB_look rs x
  unfold atB at h2
  exact h2
set_option maxRecDepth 100000 in
set_option maxHeartbeats 4000000 in
theorem leadI (a : Option Addr) (n cap : Nat) (nx : Int) (rs : List InoR) (w : World) (ht : TR w a n rs) (hwf : ∀ r ∈ rs, (Lit.int .i64 r.D.ino).wf = true) (hwe : ∀ r ∈ rs, ∀ e ∈ r.D.ents, (Lit.int .i64 e.2).wf = true) :
    Calls Tryz.prog 39 #[.agg #[.slice a n cap, .int .i64 nx]] w fun e w' => e = .returned (.bool (leadD (rs.map InoR.D))) ∧ Below w.heap.size w w' := by
  have B0 : Below w.heap.size w (w.alloc (.cells #[.slice a n cap, .int .i64 nx] 30)) := (Below.refl _ w).alloc (Nat.le_refl _) _
  have z0 := Blk.new w 30 #[.slice a n cap, .int .i64 nx]
  have hsz : Hid ((w.alloc (.cells #[.slice a n cap, .int .i64 nx] 30)).heap.size = w.heap.size + 1) := by show _ = _; simp
  have hcB := byNumber_any a n cap nx rs _ ht.len (by have := ht.n; omega) hwf (ht.rd.keep B0)
  obtain ⟨ds, hds⟩ : ∃ ds, rs.map InoR.D = ds := ⟨_, rfl⟩
  have HDS : Hid _ := hds
  have hdl : Hid (ds.length = n) := by show _ = _; rw [← hds, List.length_map, ht.len]
  obtain ⟨R, hR⟩ : ∃ R, leadD ds = R := ⟨_, rfl⟩
  rw [hds, hR]
  have HR : Hid ((ds.drop 0).all (fun D => D.ents.all (goodE ds)) = R) := hR
  have HT : Hid _ := ht
  have HE : Hid _ := hwe
  have hn1 := ht.n
  clear ht hwe hwf hR hds
  go_enter Tryz.func39, Tryz.ntmps39
  go_wp2_with fail
  obtain ⟨W0, hW0⟩ : ∃ W, w.alloc (.cells #[.slice a n cap, .int .i64 nx] 30) = W := ⟨_, rfl⟩
  rw [hW0] at B0 z0 hcB hsz ⊢
  clear hW0
  (with_reducible refine hcB.mono ?_)
  rintro e w1 ⟨cnt, Dp, rfl, hcnt, hM, hown, b1⟩
  obtain ⟨pm, hpm⟩ : ∃ pm, W0.heap.size + 1 = pm := ⟨_, rfl⟩
  rw [hpm] at hown ⊢
  have B1 := B0.trans (b1.mono B0.size)
  have zt := (z0.keep b1).cell 0
  simp at zt
  have HB1 : Hid _ := B1
  have HM : Hid _ := hM
  have HO : Hid _ := hown
  clear hM hown hcB z0 B0 b1 B1 hpm hsz
  go_wp2
  clear zt
  go_loopw [15] (fun i wr => ∃ k : Nat, k ≤ n ∧ i = .int .i64 k ∧ Hid ((ds.drop k).all (fun D => D.ents.all (goodE ds)) = R) ∧ Hid (Below w1.heap.size w1 wr)) (fun i _ => n - (intOf i).toNat)
  case atStart => exact ⟨0, Nat.zero_le _, rfl, HR, Below.refl _ _⟩
  case round =>
    obtain ⟨k, hk, rfl, hall, hB⟩ := hrel
    clear HR
    by_cases hkn : k < n
    · have hki : (k : Int) < (n : Int) := by omega
      have hk0 : (0 : Int) ≤ (k : Int) := by omega
      have hTr := HT.out.keep (HB1.out.trans (hB.out.mono HB1.out.size))
      obtain ⟨r, hrk⟩ : ∃ r, rs[k]? = some r := ⟨_, List.getElem?_eq_getElem (by rw [hTr.len]; exact hkn)⟩
      obtain ⟨b, off, rfl, hlt, hc⟩ := RdI.lt hTr.rd (by intro h; rw [h] at hrk; simp at hrk)
      obtain ⟨x6, xr⟩ := hc k r hrk
      obtain ⟨x0, x1, x2, x3, x4, x5⟩ := x6
      have hall' := hall.out
      rw [all_drop (x := r.D) _ (by rw [← HDS.out]; simp [hrk])] at hall'
      have hsm := (hTr.small r (List.mem_of_getElem? hrk)).ents
      have hwr := HE.out r (List.mem_of_getElem? hrk)
      obtain ⟨es, hes⟩ : ∃ es, r.D.ents = es := ⟨_, rfl⟩
      have hre : RdP wr r.a2 (eP es) := by rw [← hes]; exact InoRd.ents xr
      rw [hes] at x4 hall' hsm hwr
      obtain ⟨n2, hn2⟩ : ∃ n2, es.length = n2 := ⟨_, rfl⟩
      rw [hn2] at x4 hsm
      have HN : Hid _ := hn2
      generalize r.D.ino = i1 at x0
      generalize r.D.kind = i2 at x1
      generalize r.D.links = i3 at x2
      generalize r.D.data.length = n1 at x3
      generalize r.D.attrs.length = n3 at x5
      have bx := Blk.new wr 46 #[.int .i64 i1, .int .i64 i2, .int .i64 i3, .slice r.a1 n1 r.c1, .slice r.a2 n2 r.c2, .slice r.a3 n3 r.c3]
      have hbA : Below wr.heap.size wr (wr.alloc (.cells #[.int .i64 i1, .int .i64 i2, .int .i64 i3, .slice r.a1 n1 r.c1, .slice r.a2 n2 r.c2, .slice r.a3 n3 r.c3] 46)) := (Below.refl _ wr).alloc (Nat.le_refl _) _
      have y4 := bx.cell 4
      simp at y4
      have HRE : Hid _ := RdP.keep hre hbA
      have HBA : Hid _ := hB.out.trans (hbA.mono hB.out.size)
      have HWR : Hid _ := hwr
      have HA : Hid (((es.drop 0).all (goodE ds) && (ds.drop (k + 1)).all (fun D => D.ents.all (goodE ds))) = R) := hall'
      clear hc hrk xr hes hn2 hre bx hbA hall hTr hall' hwr
      go_wp2
      obtain ⟨Wb, hWb⟩ : ∃ W, wr.alloc (.cells #[.int .i64 i1, .int .i64 i2, .int .i64 i3, .slice r.a1 n1 r.c1, .slice r.a2 n2 r.c2, .slice r.a3 n3 r.c3] 46) = W := ⟨_, rfl⟩
      rw [hWb] at HRE HBA ⊢
      clear hWb y4 x0 x1 x2 x3 x4 x5
      go_loopw [22] (fun j wi => ∃ q : Nat, q ≤ n2 ∧ j = .int .i64 q ∧ Hid (((es.drop q).all (goodE ds) && (ds.drop (k + 1)).all (fun D => D.ents.all (goodE ds))) = R) ∧ Hid (Below Wb.heap.size Wb wi)) (fun j _ => n2 - (intOf j).toNat)
      case atStart => exact ⟨0, Nat.zero_le _, rfl, HA, Below.refl _ _⟩
      case round =>
        obtain ⟨q, hq, rfl, hap, hBi⟩ := hrel
        clear HA
        by_cases hqn : q < n2
        · have hqi : (q : Int) < (n2 : Int) := by omega
          have hq0 : (0 : Int) ≤ (q : Int) := by omega
          have hql : q < es.length := by rw [HN.out]; exact hqn
          have hap' := hap.out
          rw [all_drop (x := es[q]) _ (List.getElem?_eq_getElem hql), goodE] at hap'
          obtain ⟨eb, eo, hea, helt, hec⟩ := RdP.lt (RdP.keep HRE.out hBi.out) (by intro h; have := congrArg List.length h; rw [eP_length] at this; simp at this; rw [this] at hql; simp at hql)
          have hx := hec q (by rw [eP_length]; exact hql)
          rw [eP_at es q hql] at hx
          have hwu := HWR.out es[q] (List.getElem_mem hql)
          obtain ⟨zn, hzn⟩ : ∃ z, es[q].1 = z := ⟨_, rfl⟩
          obtain ⟨u, hu⟩ : ∃ u, es[q].2 = u := ⟨_, rfl⟩
          rw [hzn, hu] at hx
          rw [hu] at hap' hwu
          obtain ⟨x1, x2⟩ := hx
          dsimp only at x1 x2
          rw [hea]
          have hBw : Below w1.heap.size w1 wr := HBA.out.trans (hBi.out.mono HBA.out.size)
          have bA : Below wr.heap.size wr (wr.alloc (.cells #[.string zn, .int .i64 u] 60)) := (Below.refl _ wr).alloc (Nat.le_refl _) _
          have HBI : Hid (Below Wb.heap.size Wb (wr.alloc (.cells #[.string zn, .int .i64 u] 60))) := hBi.out.trans (bA.mono hBi.out.size)
          have HBF : Hid (Below w.heap.size w (wr.alloc (.cells #[.string zn, .int .i64 u] 60))) := HB1.out.trans ((hBw.trans (bA.mono hBw.size)).mono HB1.out.size)
          have e1 := (Blk.new wr 60 #[.string zn, .int .i64 u]).cell 1
          simp at e1
          have hplt := World.ownsMap.lt HO.out
          have hpw : wr.ownsMap Tryz.prog 3 (plainElem Tryz.prog 3) pm cnt Dp := by
            obtain ⟨es, clock, hb, Ft, hs, hD⟩ := HO.out
            exact ⟨es, clock, (hBw.block pm hplt).trans hb, Ft, hs, hD⟩
          have hpA := hpw.alloc (.cells #[.string zn, .int .i64 u] 60)
          have hkey : keyOf Tryz.prog 3 (.int .i64 u) = some (.int .i64 u) := keyOf_int_mk Tryz.underlying3 hwu
          have hhs : Maps.has Dp (.int .i64 u) = (look ds u).isSome := by rw [(HM.out.2 u).1, firstAt_look, HDS.out]
          clear hec hzn hu hea helt hap bA hBw hpw hplt
          cases hl : (look ds u).isSome with
          | false =>
            rw [hl] at hap' hhs
            rw [Bool.false_and, Bool.false_and] at hap'
            have hend : Hid (false = R) := hap'
            clear hap'
            go_wp2_with (first
              | (at_lookup; refine wpList_lookup_own_ok_int _ rfl _ _ 56 rfl 3 3 .i64 Tryz.keyInt Tryz.underlying56 Tryz.underlying3 (Tryz.zeroInt _) pm cnt Dp rfl hpA _ _ rfl hkey ?_; intro c hat hwc; rw [hhs])
              | go_in)
            go_ret
            exact ⟨ret_bool hend.out, HBF.out⟩
          | true =>
            rw [hl] at hap' hhs
            rw [Bool.true_and] at hap'
            have hnx : Hid _ := hap'
            clear hap'
            go_wp2_with (first
              | (at_lookup; refine wpList_lookup_own_ok_int _ rfl _ _ 56 rfl 3 3 .i64 Tryz.keyInt Tryz.underlying56 Tryz.underlying3 (Tryz.zeroInt _) pm cnt Dp rfl hpA _ _ rfl hkey ?_; intro c hat hwc; rw [hhs])
              | go_in)
            go_roundw
            case rel => exact ⟨q + 1, by omega, by go_num, hnx, HBI⟩
            case measure => simp [intOf]; omega
        · have hqi : ¬ (q : Int) < (n2 : Int) := by omega
          have hfin : Hid ((ds.drop (k + 1)).all (fun D => D.ents.all (goodE ds)) = R) := by
            have h1 := hap.out
            rw [List.drop_of_length_le (by rw [HN.out]; omega)] at h1
            exact h1
          have hB2 : Hid _ := HBA.out.trans (hBi.out.mono HBA.out.size)
          go_wp2
          go_roundw
          case rel => exact ⟨k + 1, by omega, by go_num, hfin, hB2⟩
          case measure => simp [intOf]; omega
    · have hki : ¬ (k : Int) < (n : Int) := by omega
      have hend : Hid (true = R) := by
        have h1 := hall.out
        rw [List.drop_of_length_le (by rw [hdl.out]; omega)] at h1
        exact h1
      have hfb : Hid _ := HB1.out.trans (hB.out.mono HB1.out.size)
      go_wp2
      go_ret
      exact ⟨ret_bool hend.out, hfb.out⟩
end Go.Proofs.YtnadeelnjhollaaGreat
