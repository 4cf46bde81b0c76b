/-
  Joined: LeadI, Shelf, ReachT.
-/
import Derived.Test.YtfjlemnohjnkhaaGreatTreeSF
import Derived.Shelf.SlGeneric
import Derived.Shelf.SlIterI.Nil
import Derived.Shelf.SortM.Plain
import Derived.Shelf.SortM.SortNone
import Derived.Ground.GgzProg
import Derived.Ground.SlgmProg
namespace Go.Proofs.YtfjlemnohjnkhaaGreat
section
open Go.RowKit Go.Maps
def leadD (ds : List InoD) : Bool := ds.all fun D => D.ents.all (goodE ds)
theorem firstAt_look (rs : List InoR) (x : Int) : (firstAt (inos rs) x).isSome = (look (rs.map InoR.D) x).isSome := by
  have h2 := atB_look rs x
  unfold atB at h2
  exact h2
set_option maxRecDepth 100000 in
set_option maxHeartbeats 4000000 in
theorem leadI (a : Option Addr) (n cap : Nat) (nx : Int) (rs : List InoR) (w : World) (ht : TR w a n rs) (hwf : ∀ r ∈ rs, (Lit.int .i64 r.D.ino).wf = true) (hwe : ∀ r ∈ rs, ∀ e ∈ r.D.ents, (Lit.int .i64 e.2).wf = true) :
    Calls Tryz.prog 105 #[.agg #[.slice a n cap, .int .i64 nx]] w fun e w' => e = .returned (.bool (leadD (rs.map InoR.D))) ∧ Below w.heap.size w w' := by
  have B0 : Below w.heap.size w (w.alloc (.cells #[.slice a n cap, .int .i64 nx] 47)) := (Below.refl _ w).alloc (Nat.le_refl _) _
  have z0 := Blk.new w 47 #[.slice a n cap, .int .i64 nx]
  have hsz : Hid ((w.alloc (.cells #[.slice a n cap, .int .i64 nx] 47)).heap.size = w.heap.size + 1) := by show _ = _; simp
  have hcB := byNumber_any a n cap nx rs _ ht.len (by have := ht.n; omega) hwf (ht.rd.keep B0)
  obtain ⟨ds, hds⟩ : ∃ ds, rs.map InoR.D = ds := ⟨_, rfl⟩
  have HDS : Hid _ := hds
  have hdl : Hid (ds.length = n) := by show _ = _; rw [← hds, List.length_map, ht.len]
  obtain ⟨R, hR⟩ : ∃ R, leadD ds = R := ⟨_, rfl⟩
  rw [hds, hR]
  have HR : Hid ((ds.drop 0).all (fun D => D.ents.all (goodE ds)) = R) := hR
  have HT : Hid _ := ht
  have HE : Hid _ := hwe
  have hn1 := ht.n
  clear ht hwe hwf hR hds
  go_enter Tryz.func105, Tryz.ntmps105
  go_wp2_with fail
  obtain ⟨W0, hW0⟩ : ∃ W, w.alloc (.cells #[.slice a n cap, .int .i64 nx] 47) = W := ⟨_, rfl⟩
  rw [hW0] at B0 z0 hcB hsz ⊢
  clear hW0
  (with_reducible refine hcB.mono ?_)
  rintro e w1 ⟨cnt, Dp, rfl, hcnt, hM, hown, b1⟩
  obtain ⟨pm, hpm⟩ : ∃ pm, W0.heap.size + 1 = pm := ⟨_, rfl⟩
  rw [hpm] at hown ⊢
  have B1 := B0.trans (b1.mono B0.size)
  have zt := (z0.keep b1).cell 0
  simp at zt
  have HB1 : Hid _ := B1
  have HM : Hid _ := hM
  have HO : Hid _ := hown
  clear hM hown hcB z0 B0 b1 B1 hpm hsz
  go_wp2
  clear zt
  go_loopw [15] (fun i wr => ∃ k : Nat, k ≤ n ∧ i = .int .i64 k ∧ Hid ((ds.drop k).all (fun D => D.ents.all (goodE ds)) = R) ∧ Hid (Below w1.heap.size w1 wr)) (fun i _ => n - (intOf i).toNat)
  case atStart => exact ⟨0, Nat.zero_le _, rfl, HR, Below.refl _ _⟩
  case round =>
    obtain ⟨k, hk, rfl, hall, hB⟩ := hrel
    clear HR
    by_cases hkn : k < n
    · have hki : (k : Int) < (n : Int) := by omega
      have hk0 : (0 : Int) ≤ (k : Int) := by omega
      have hTr := HT.out.keep (HB1.out.trans (hB.out.mono HB1.out.size))
      obtain ⟨r, hrk⟩ : ∃ r, rs[k]? = some r := ⟨_, List.getElem?_eq_getElem (by rw [hTr.len]; exact hkn)⟩
      obtain ⟨b, off, rfl, hlt, hc⟩ := RdI.lt hTr.rd (by intro h; rw [h] at hrk; simp at hrk)
      obtain ⟨x6, xr⟩ := hc k r hrk
      obtain ⟨x0, x1, x2, x3, x4, x5⟩ := x6
      have hall' := hall.out
      rw [all_drop (x := r.D) _ (by rw [← HDS.out]; simp [hrk])] at hall'
      have hsm := (hTr.small r (List.mem_of_getElem? hrk)).ents
      have hwr := HE.out r (List.mem_of_getElem? hrk)
      obtain ⟨es, hes⟩ : ∃ es, r.D.ents = es := ⟨_, rfl⟩
      have hre : RdP wr r.a2 (eP es) := by rw [← hes]; exact InoRd.ents xr
      rw [hes] at x4 hall' hsm hwr
      obtain ⟨n2, hn2⟩ : ∃ n2, es.length = n2 := ⟨_, rfl⟩
      rw [hn2] at x4 hsm
      have HN : Hid _ := hn2
      generalize r.D.ino = i1 at x0
      generalize r.D.kind = i2 at x1
      generalize r.D.links = i3 at x2
      generalize r.D.data.length = n1 at x3
      generalize r.D.attrs.length = n3 at x5
      have bx := Blk.new wr 85 #[.int .i64 i1, .int .i64 i2, .int .i64 i3, .slice r.a1 n1 r.c1, .slice r.a2 n2 r.c2, .slice r.a3 n3 r.c3]
      have hbA : Below wr.heap.size wr (wr.alloc (.cells #[.int .i64 i1, .int .i64 i2, .int .i64 i3, .slice r.a1 n1 r.c1, .slice r.a2 n2 r.c2, .slice r.a3 n3 r.c3] 85)) := (Below.refl _ wr).alloc (Nat.le_refl _) _
      have y4 := bx.cell 4
      simp at y4
      have HRE : Hid _ := RdP.keep hre hbA
      have HBA : Hid _ := hB.out.trans (hbA.mono hB.out.size)
      have HWR : Hid _ := hwr
      have HA : Hid (((es.drop 0).all (goodE ds) && (ds.drop (k + 1)).all (fun D => D.ents.all (goodE ds))) = R) := hall'
      clear hc hrk xr hes hn2 hre bx hbA hall hTr hall' hwr
      go_wp2
      obtain ⟨Wb, hWb⟩ : ∃ W, wr.alloc (.cells #[.int .i64 i1, .int .i64 i2, .int .i64 i3, .slice r.a1 n1 r.c1, .slice r.a2 n2 r.c2, .slice r.a3 n3 r.c3] 85) = W := ⟨_, rfl⟩
      rw [hWb] at HRE HBA ⊢
      clear hWb y4 x0 x1 x2 x3 x4 x5
      go_loopw [22] (fun j wi => ∃ q : Nat, q ≤ n2 ∧ j = .int .i64 q ∧ Hid (((es.drop q).all (goodE ds) && (ds.drop (k + 1)).all (fun D => D.ents.all (goodE ds))) = R) ∧ Hid (Below Wb.heap.size Wb wi)) (fun j _ => n2 - (intOf j).toNat)
      case atStart => exact ⟨0, Nat.zero_le _, rfl, HA, Below.refl _ _⟩
      case round =>
        obtain ⟨q, hq, rfl, hap, hBi⟩ := hrel
        clear HA
        by_cases hqn : q < n2
        · have hqi : (q : Int) < (n2 : Int) := by omega
          have hq0 : (0 : Int) ≤ (q : Int) := by omega
          have hql : q < es.length := by rw [HN.out]; exact hqn
          have hap' := hap.out
          rw [all_drop (x := es[q]) _ (List.getElem?_eq_getElem hql), goodE] at hap'
          obtain ⟨eb, eo, hea, helt, hec⟩ := RdP.lt (RdP.keep HRE.out hBi.out) (by intro h; have := congrArg List.length h; rw [eP_length] at this; simp at this; rw [this] at hql; simp at hql)
          have hx := hec q (by rw [eP_length]; exact hql)
          rw [eP_at es q hql] at hx
          have hwu := HWR.out es[q] (List.getElem_mem hql)
          obtain ⟨zn, hzn⟩ : ∃ z, es[q].1 = z := ⟨_, rfl⟩
          obtain ⟨u, hu⟩ : ∃ u, es[q].2 = u := ⟨_, rfl⟩
          rw [hzn, hu] at hx
          rw [hu] at hap' hwu
          obtain ⟨x1, x2⟩ := hx
          dsimp only at x1 x2
          rw [hea]
          have hBw : Below w1.heap.size w1 wr := HBA.out.trans (hBi.out.mono HBA.out.size)
          have bA : Below wr.heap.size wr (wr.alloc (.cells #[.string zn, .int .i64 u] 88)) := (Below.refl _ wr).alloc (Nat.le_refl _) _
          have HBI : Hid (Below Wb.heap.size Wb (wr.alloc (.cells #[.string zn, .int .i64 u] 88))) := hBi.out.trans (bA.mono hBi.out.size)
          have HBF : Hid (Below w.heap.size w (wr.alloc (.cells #[.string zn, .int .i64 u] 88))) := HB1.out.trans ((hBw.trans (bA.mono hBw.size)).mono HB1.out.size)
          have e1 := (Blk.new wr 88 #[.string zn, .int .i64 u]).cell 1
          simp at e1
          have hplt := World.ownsMap.lt HO.out
          have hpw : wr.ownsMap Tryz.prog 3 (plainElem Tryz.prog 3) pm cnt Dp := by
            obtain ⟨es, clock, hb, Ft, hs, hD⟩ := HO.out
            exact ⟨es, clock, (hBw.block pm hplt).trans hb, Ft, hs, hD⟩
          have hpA := hpw.alloc (.cells #[.string zn, .int .i64 u] 88)
          have hkey : keyOf Tryz.prog 3 (.int .i64 u) = some (.int .i64 u) := keyOf_int_mk Tryz.underlying3 hwu
          have hhs : Maps.has Dp (.int .i64 u) = (look ds u).isSome := by rw [(HM.out.2 u).1, firstAt_look, HDS.out]
          clear hec hzn hu hea helt hap bA hBw hpw hplt
          cases hl : (look ds u).isSome with
          | false =>
            rw [hl] at hap' hhs
            rw [Bool.false_and, Bool.false_and] at hap'
            have hend : Hid (false = R) := hap'
            clear hap'
            go_wp2_with (first
              | (at_lookup; refine wpList_lookup_own_ok_int _ rfl _ _ 159 rfl 3 3 .i64 Tryz.keyInt Tryz.underlying159 Tryz.underlying3 (Tryz.zeroInt _) pm cnt Dp rfl hpA _ _ rfl hkey ?_; intro c hat hwc; rw [hhs])
              | go_in)
            go_ret
            exact ⟨ret_bool hend.out, HBF.out⟩
          | true =>
            rw [hl] at hap' hhs
            rw [Bool.true_and] at hap'
            have hnx : Hid _ := hap'
            clear hap'
            go_wp2_with (first
              | (at_lookup; refine wpList_lookup_own_ok_int _ rfl _ _ 159 rfl 3 3 .i64 Tryz.keyInt Tryz.underlying159 Tryz.underlying3 (Tryz.zeroInt _) pm cnt Dp rfl hpA _ _ rfl hkey ?_; intro c hat hwc; rw [hhs])
              | go_in)
            go_roundw
            case rel => exact ⟨q + 1, by omega, by go_num, hnx, HBI⟩
            case measure => simp [intOf]; omega
        · have hqi : ¬ (q : Int) < (n2 : Int) := by omega
          have hfin : Hid ((ds.drop (k + 1)).all (fun D => D.ents.all (goodE ds)) = R) := by
            have h1 := hap.out
            rw [List.drop_of_length_le (by rw [HN.out]; omega)] at h1
            exact h1
          have hB2 : Hid _ := HBA.out.trans (hBi.out.mono HBA.out.size)
          go_wp2
          go_roundw
          case rel => exact ⟨k + 1, by omega, by go_num, hfin, hB2⟩
          case measure => simp [intOf]; omega
    · have hki : ¬ (k : Int) < (n : Int) := by omega
      have hend : Hid (true = R) := by
        have h1 := hall.out
        rw [List.drop_of_length_le (by rw [hdl.out]; omega)] at h1
        exact h1
      have hfb : Hid _ := HB1.out.trans (hB.out.mono HB1.out.size)
      go_wp2
      go_ret
      exact ⟨ret_bool hend.out, hfb.out⟩
end

section
open Go.Shelf
def Tryz.keysA_ren : Go.Shelf.Ren := ⟨fun | 7 => 131 | 10 => 161 | n => n, fun | 23 => 159 | 26 => 3 | 3 => 3 | 28 => 166 | 0 => 0 | 27 => 165 | 33 => 92 | 4 => 4 | n => n, fun | n => n⟩
theorem Tryz.keysA : Go.Proofs.SlLaysZI.n7 Tryz.prog Tryz.keysA_ren := {
  mixed := by kernel_rfl
  f7 := ⟨Tryz.f131.name, by decide, Tryz.func131.trans (congrArg some (by kernel_rfl))⟩
  f10 := ⟨Tryz.f161.name, by decide, Tryz.func161.trans (congrArg some (by kernel_rfl))⟩
  t0 := Tryz.underlying0
  a0 := Tryz.isAgg0
  z0 := Tryz.sizeOf0
  v0 := Tryz.zeroValue0
  t4 := Tryz.underlying4
  a4 := Tryz.isAgg4
  z4 := Tryz.sizeOf4
  v4 := Tryz.zeroValue4
  t23 := Tryz.underlying159
  a23 := Tryz.isAgg159
  z23 := Tryz.sizeOf159
  v23 := Tryz.zeroValue159
  t26 := Tryz.underlying3
  a26 := Tryz.isAgg3
  z26 := Tryz.sizeOf3
  v26 := Tryz.zeroValue3
  t27 := Tryz.underlying165
  a27 := Tryz.isAgg165
  z27 := Tryz.sizeOf165
  v27 := Tryz.zeroValue165
  t28 := Tryz.underlying166
  a28 := Tryz.isAgg166
  z28 := Tryz.sizeOf166
  v28 := Tryz.zeroValue166
  t33 := Tryz.underlying92
  a33 := Tryz.isAgg92
  z33 := Tryz.sizeOf92
  v33 := Tryz.zeroValue92 }
def Tryz.sortedA_ren : Go.Shelf.Ren := ⟨fun | 6 => 130 | 8 => 159 | 9 => 160 | 11 => 177 | 13 => 179 | 12 => 178 | 23 => 191 | 24 => 192 | 14 => 182 | 15 => 183 | 16 => 184 | 17 => 185 | 18 => 186 | 19 => 187 | 20 => 188 | 21 => 189 | 22 => 190 | 25 => 193 | 26 => 194 | 27 => 195 | 28 => 196 | 29 => 197 | 30 => 198 | 31 => 199 | n => n, fun | 26 => 3 | 28 => 166 | 24 => 80 | 0 => 0 | 3 => 3 | 37 => 140 | 48 => 220 | 50 => 222 | 4 => 4 | 40 => 213 | 39 => 212 | 45 => 158 | 5 => 5 | 9 => 9 | 51 => 223 | 55 => 227 | 57 => 229 | 58 => 180 | 33 => 92 | n => n, fun | n => n⟩
theorem Tryz.sortedA : Go.Proofs.SlLaysZI.n6 Tryz.prog Tryz.sortedA_ren := {
  mixed := by kernel_rfl
  f6 := ⟨Tryz.f130.name, by decide, Tryz.func130.trans (congrArg some (by kernel_rfl))⟩
  f8 := ⟨Tryz.f159.name, by decide, Tryz.func159.trans (congrArg some (by kernel_rfl))⟩
  f11 := ⟨Tryz.f177.name, by decide, Tryz.func177.trans (congrArg some (by kernel_rfl))⟩
  t0 := Tryz.underlying0
  a0 := Tryz.isAgg0
  z0 := Tryz.sizeOf0
  v0 := Tryz.zeroValue0
  t24 := Tryz.underlying80
  a24 := Tryz.isAgg80
  z24 := Tryz.sizeOf80
  v24 := Tryz.zeroValue80
  t26 := Tryz.underlying3
  a26 := Tryz.isAgg3
  z26 := Tryz.sizeOf3
  v26 := Tryz.zeroValue3
  t28 := Tryz.underlying166
  a28 := Tryz.isAgg166
  z28 := Tryz.sizeOf166
  v28 := Tryz.zeroValue166
  i26 := by kernel_rfl }
def Tryz.sortA_ren : Go.Shelf.Ren := ⟨fun | 5 => 160 | 8 => 179 | 7 => 178 | 19 => 191 | 20 => 192 | 10 => 182 | 11 => 183 | 12 => 184 | 13 => 185 | 14 => 186 | 15 => 187 | 16 => 188 | 17 => 189 | 18 => 190 | 30 => 193 | 31 => 194 | 32 => 195 | 33 => 196 | 34 => 197 | 35 => 198 | 40 => 199 | n => n, fun | 23 => 80 | 25 => 3 | 3 => 3 | 32 => 140 | 22 => 80 | 0 => 0 | 44 => 220 | 46 => 222 | 4 => 4 | 36 => 213 | 35 => 212 | 41 => 158 | 5 => 5 | 9 => 9 | 53 => 223 | 57 => 227 | 63 => 229 | 64 => 180 | n => n, fun | n => n⟩
theorem Tryz.sortA : Go.Proofs.SlLaysM.n5 Tryz.prog Tryz.sortA_ren := {
  mixed := by kernel_rfl
  f5 := ⟨Tryz.f160.name, by decide, Tryz.func160.trans (congrArg some (by kernel_rfl))⟩
  f7 := ⟨Tryz.f178.name, by decide, Tryz.func178.trans (congrArg some (by kernel_rfl))⟩
  f8 := Tryz.func179.trans (congrArg some (by kernel_rfl))
  f10 := ⟨Tryz.f182.name, by decide, Tryz.func182.trans (congrArg some (by kernel_rfl))⟩
  f11 := ⟨Tryz.f183.name, by decide, Tryz.func183.trans (congrArg some (by kernel_rfl))⟩
  f12 := ⟨Tryz.f184.name, by decide, Tryz.func184.trans (congrArg some (by kernel_rfl))⟩
  f13 := ⟨Tryz.f185.name, by decide, Tryz.func185.trans (congrArg some (by kernel_rfl))⟩
  f14 := ⟨Tryz.f186.name, by decide, Tryz.func186.trans (congrArg some (by kernel_rfl))⟩
  f15 := ⟨Tryz.f187.name, by decide, Tryz.func187.trans (congrArg some (by kernel_rfl))⟩
  f16 := ⟨Tryz.f188.name, by decide, Tryz.func188.trans (congrArg some (by kernel_rfl))⟩
  f17 := ⟨Tryz.f189.name, by decide, Tryz.func189.trans (congrArg some (by kernel_rfl))⟩
  f18 := ⟨Tryz.f190.name, by decide, Tryz.func190.trans (congrArg some (by kernel_rfl))⟩
  f19 := Tryz.func191.trans (congrArg some (by kernel_rfl))
  f20 := Tryz.func192.trans (congrArg some (by kernel_rfl))
  f30 := ⟨Tryz.f193.name, by decide, Tryz.func193.trans (congrArg some (by kernel_rfl))⟩
  f31 := Tryz.func194.trans (congrArg some (by kernel_rfl))
  f32 := Tryz.func195.trans (congrArg some (by kernel_rfl))
  f33 := ⟨Tryz.f196.name, by decide, Tryz.func196.trans (congrArg some (by kernel_rfl))⟩
  f34 := ⟨Tryz.f197.name, by decide, Tryz.func197.trans (congrArg some (by kernel_rfl))⟩
  f35 := ⟨Tryz.f198.name, by decide, Tryz.func198.trans (congrArg some (by kernel_rfl))⟩
  f40 := ⟨Tryz.f199.name, by decide, Tryz.func199.trans (congrArg some (by kernel_rfl))⟩
  t0 := Tryz.underlying0
  a0 := Tryz.isAgg0
  z0 := Tryz.sizeOf0
  v0 := Tryz.zeroValue0
  t3 := Tryz.underlying3
  a3 := Tryz.isAgg3
  z3 := Tryz.sizeOf3
  v3 := Tryz.zeroValue3
  t4 := Tryz.underlying4
  a4 := Tryz.isAgg4
  z4 := Tryz.sizeOf4
  v4 := Tryz.zeroValue4
  t5 := Tryz.underlying5
  a5 := Tryz.isAgg5
  z5 := Tryz.sizeOf5
  v5 := Tryz.zeroValue5
  t9 := Tryz.underlying9
  a9 := Tryz.isAgg9
  z9 := Tryz.sizeOf9
  v9 := Tryz.zeroValue9
  t22 := Tryz.underlying80
  a22 := Tryz.isAgg80
  z22 := Tryz.sizeOf80
  v22 := Tryz.zeroValue80
  t23 := Tryz.underlying80
  a23 := Tryz.isAgg80
  z23 := Tryz.sizeOf80
  v23 := Tryz.zeroValue80
  t25 := Tryz.underlying3
  a25 := Tryz.isAgg3
  z25 := Tryz.sizeOf3
  v25 := Tryz.zeroValue3
  t32 := Tryz.underlying140
  a32 := Tryz.isAgg140
  z32 := Tryz.sizeOf140
  v32 := Tryz.zeroValue140
  t35 := Tryz.underlying212
  a35 := Tryz.isAgg212
  z35 := Tryz.sizeOf212
  v35 := Tryz.zeroValue212
  t36 := Tryz.underlying213
  a36 := Tryz.isAgg213
  z36 := Tryz.sizeOf213
  v36 := Tryz.zeroValue213
  t41 := Tryz.underlying158
  a41 := Tryz.isAgg158
  z41 := Tryz.sizeOf158
  v41 := Tryz.zeroValue158
  t44 := Tryz.underlying220
  a44 := Tryz.isAgg220
  z44 := Tryz.sizeOf220
  v44 := Tryz.zeroValue220
  t46 := Tryz.underlying222
  a46 := Tryz.isAgg222
  z46 := Tryz.sizeOf222
  v46 := Tryz.zeroValue222
  t53 := Tryz.underlying223
  a53 := Tryz.isAgg223
  z53 := Tryz.sizeOf223
  v53 := Tryz.zeroValue223
  t57 := Tryz.underlying227
  a57 := Tryz.isAgg227
  z57 := Tryz.sizeOf227
  v57 := Tryz.zeroValue227
  t63 := Tryz.underlying229
  a63 := Tryz.isAgg229
  z63 := Tryz.sizeOf229
  v63 := Tryz.zeroValue229
  t64 := Tryz.underlying180
  a64 := Tryz.isAgg180
  z64 := Tryz.sizeOf180
  v64 := Tryz.zeroValue180 }
end

section
open Go.RowKit Go.Maps Go.Sort Go.Shelf
theorem sortsA (m : Nat) : AnyZI.SortsIn Tryz.prog Tryz.sortedA_ren Fence.wide m :=
  ⟨fun blk off cap ss W hH hblk hsz => callsIn_wide.2 (AnyM.slices_Sort_int Tryz.sortA blk off cap ss W hH hblk hsz),
   fun p cap W => callsIn_wide.2 (AnyM.slices_Sort_int_none Tryz.sortA p cap W)⟩
theorem keysK (mb : Option Nat) (W : World) : Calls Tryz.prog 131 #[.map mb] W fun e w' => e = .returned (.func (.func 161) #[] #[.pointer (some ⟨W.heap.size, 0, none⟩)]) ∧ w' = W.alloc (.cells #[.map mb] 159) :=
  callsIn_wide.1 (AnyZI.keys_in Tryz.keysA Fence.wide 5 trivial rfl mb W)
set_option maxHeartbeats 1000000 in
theorem sortedK (b nn : Nat) (D0 : DataW Unit) (w : World) (hown : w.ownsMap Tryz.prog 3 (plainElem Tryz.prog 3) b nn D0) (hmax : Maps.size D0 ≤ maxLen) (hbytes : Maps.size D0 * 8 ≤ 140737488355328) :
    Calls Tryz.prog 130 #[.func (.func 161) #[] #[.pointer (some ⟨w.heap.size, 0, none⟩)]] (w.alloc (.cells #[.map (some b)] 159)) fun e w' => ∃ (v : Value) (ss : List Int), e = .returned v ∧ ss.Perm (intKeys D0) ∧
      w'.ownsRow (w.heap.size + 1) 3 1 v ss.length ((ss.mergeSort (fun x y => decide (x ≤ y))).map encZ) ∧ Below (w.heap.size + 1) (w.alloc (.cells #[.map (some b)] 159)) w' := by
  have hbl := hown.lt
  have hseq : SeqGives Fence.wide 2 Tryz.prog 161 #[.pointer (some ⟨w.heap.size, 0, none⟩)] encZ (fun ss => ss.Perm (intKeys D0)) (Maps.size D0) (w.alloc (.cells #[.map (some b)] 159)) :=
    AnyZI.keys_gives (ρ := Tryz.keysA_ren) { Tryz.keysA with } Fence.wide _ trivial rfl (by omega) w.heap.size b nn D0 _ (by simp) (by simp) (by
      obtain ⟨es, clock, hb, Ft, hs, hD⟩ := hown
      exact ⟨es, clock, (Below.heap_alloc _ _ b hbl).trans hb, Ft, hs, hD⟩)
  have cS := AnyZI.sorted_in Tryz.sortedA Fence.wide 5 trivial trivial trivial trivial rfl (by omega) (sortsA _) (enters_of Tryz.func160 (by kernel_rfl) rfl) 161 #[.pointer (some ⟨w.heap.size, 0, none⟩)] trivial (enters_of Tryz.func161 (by kernel_rfl) rfl) _ _ hmax hbytes _ hseq
  change CallsIn _ _ Tryz.prog 130 _ _ _ at cS
  refine (callsIn_wide.1 cS).mono ?_
  rintro e w' ⟨v, ss, rfl, hS, hrow, hnil, hb⟩
  simp only [World.size_alloc] at hrow hb
  exact ⟨v, ss, rfl, hS, hrow, hb⟩
theorem ownShape {B : Nat} {W : World} {e : TypeId} {s : Nat} {v : Value} {n : Nat} {xs : List Value} (h : W.ownsRow B e s v n xs) : ∃ a c, v = .slice a n c := by
  rcases h.2 with ⟨rfl, rfl⟩ | ⟨g, c, cur, rfl, _⟩
  · exact ⟨none, 0, rfl⟩
  · exact ⟨_, _, rfl⟩
theorem perm_keys {W : World} {b nn : Nat} {D : DataW Unit} {S : List Int} (hown : W.ownsMap Tryz.prog 3 (plainElem Tryz.prog 3) b nn D) (hn : S.Nodup) (hh : ∀ y, Maps.has D (.int .i64 y) = decide (y ∈ S)) : S.Perm (intKeys D) :=
  CollectedI.perm (left := fun _ => false) ⟨hn, fun x => by rw [hh x]; simp⟩ hown Tryz.keyInt Tryz.underlying3 (fun _ => rfl)
theorem size_keys {D : DataW Unit} (h : IsMap D) : Maps.size D = (intKeys D).length := by
  obtain ⟨es, rfl⟩ := h
  simp [Maps.size_eq, intKeys]
theorem makeNone (w : World) : (Instr.makeMap 159 none).run Tryz.prog w = .ok (.map (some w.heap.size)) (w.alloc (.map #[] 0)) := by
  simp [Instr.makeMap, Result.andThen]
/-- What is known at the beginning of a round: what was put by ahead of k is reached. -/
structure RM (ds : List InoD) (S Bs : List Int) (k : Nat) : Prop where
  done : ∀ (i : Nat) (y : Int), i < k → Bs[i]? = some y → (look ds y).isSome = true → y ∈ S
  closed : ∀ y ∈ S, ∀ e ∈ dirEnts ds y, (look ds e.2).isSome = true → e.2 ∈ S ∨ e.2 ∈ Bs
  leads : ∀ y ∈ S, Leads ds 1 y
  bleads : ∀ y ∈ Bs, (look ds y).isSome = true → Leads ds 1 y
  one : (1 : Int) ∈ Bs
  count : Bs.length ≤ 1 + mXE * S.length
  wfs : ∀ y ∈ Bs, (Lit.int .i64 y).wf = true
  le : k ≤ Bs.length
theorem RM.start (ds : List InoD) : RM ds [] [1] 0 :=
  ⟨fun i y hi => by omega, fun y hy => by simp at hy, fun y hy => by simp at hy, fun y hy hl => by
    have : y = 1 := by simpa using hy
    subst this
    exact Leads.self hl, by simp, by simp, fun y hy => by
    have : y = 1 := by simpa using hy
    subst this
    decide, Nat.zero_le _⟩
theorem RM.step {ds : List InoD} {S Bs S' Bs' : List Int} {k : Nat} {x : Int} (h : RM ds S Bs k) (hx : Bs[k]? = some x) (g : RP ds S Bs x 0 S' Bs') : RM ds S' Bs' (k + 1) := by
  have hk := (List.getElem?_eq_some_iff.1 hx).1
  have hpre : ∀ i, i < Bs.length → Bs'[i]? = Bs[i]? := fun i hi => by
    obtain ⟨l, hl⟩ := g.pre
    rw [← hl, List.getElem?_append_left hi]
  have hl1 : ∀ y, Leads ds x y → Leads ds 1 y := fun y hy => by
    cases hl : (look ds x).isSome with
    | false => exact (leads_none hl hy).elim
    | true => exact (h.bleads x (List.mem_of_getElem? hx) hl).trans hy
  refine ⟨fun i y hi hy hl => ?_, fun y hy e he hl => ?_, fun y hy => ?_, fun y hy hl => ?_, pre_mem g.pre h.one, ?_, g.wfs h.wfs, ?_⟩
  · rw [hpre i (by omega)] at hy
    rcases (show i < k ∨ i = k by omega) with hi | rfl
    · exact g.sub y (h.done i y hi hy hl)
    · rw [hx] at hy
      cases hy
      rcases g.self hl with h1 | h1
      · exact h1
      · exact absurd h1.1 (by decide)
  · by_cases hyS : y ∈ S
    · rcases h.closed y hyS e he hl with h1 | h1
      · exact .inl (g.sub _ h1)
      · exact .inr (pre_mem g.pre h1)
    · exact g.closed y hy hyS e he hl
  · rcases g.leads y hy with h1 | h1
    · exact h.leads y h1
    · exact hl1 y h1
  · rcases g.bleads y hy with h1 | h1
    · exact h.bleads y h1 hl
    · exact hl1 y h1
  · have h1 := h.count
    have h2 := g.count
    omega
  · have := g.pre.length_le
    omega
/-- So much is left to be done. -/
def leftV (n : Nat) (S Bs : List Int) (k : Nat) : Nat := mXE * (n - S.length) + Bs.length - k
theorem left_step {ds : List InoD} {n k : Nat} {S Bs S' Bs' : List Int} {x : Int} (hn : S'.length ≤ n) (hs : S.length ≤ S'.length) (hk : k < Bs.length) (g : RP ds S Bs x 0 S' Bs') : leftV n S' Bs' (k + 1) < leftV n S Bs k := by
  have h1 := g.count
  have h2 := g.pre.length_le
  have e1 : mXE * (n - S.length) = mXE * n - mXE * S.length := Nat.mul_sub ..
  have e2 : mXE * (n - S'.length) = mXE * n - mXE * S'.length := Nat.mul_sub ..
  have e3 : mXE * S.length ≤ mXE * S'.length := Nat.mul_le_mul_left _ hs
  have e4 : mXE * S'.length ≤ mXE * n := Nat.mul_le_mul_left _ hn
  unfold leftV
  rw [e1, e2]
  omega
theorem RM.closed_end {ds : List InoD} {S Bs : List Int} {k : Nat} (h : RM ds S Bs k) (hk : Bs.length ≤ k) : Closed ds (· ∈ S) := fun y hy e he hl => by
  rcases h.closed y hy e he hl with h1 | h1
  · exact h1
  · obtain ⟨i, hi⟩ := List.getElem?_of_mem h1
    exact h.done i _ (by have := (List.getElem?_eq_some_iff.1 hi).1; omega) hi hl
theorem RM.one_end {ds : List InoD} {S Bs : List Int} {k : Nat} (h : RM ds S Bs k) (hk : Bs.length ≤ k) (hl : (look ds 1).isSome = true) : (1 : Int) ∈ S := by
  obtain ⟨i, hi⟩ := List.getElem?_of_mem h.one
  exact h.done i _ (by have := (List.getElem?_eq_some_iff.1 hi).1; omega) hi hl
theorem least_nat {p : Nat → Prop} (h : ∃ k, p k) : ∃ k, p k ∧ ∀ j, p j → k ≤ j := by
  obtain ⟨k, hk⟩ := h
  induction k using Nat.strongRecOn with
  | ind k ih =>
    by_cases c : ∃ j, j < k ∧ p j
    · obtain ⟨j, hj, hp⟩ := c
      exact ih j hj hp
    · exact ⟨k, hk, fun j hj => Nat.le_of_not_lt fun hlt => c ⟨j, hlt, hj⟩⟩
/-- A measure that is the least of what may be. -/
theorem least_fn {α β : Type} (p : α → β → Nat → Prop) : ∃ f : α → β → Nat, ∀ x y, (∃ k, p x y k) → p x y (f x y) ∧ ∀ k, p x y k → f x y ≤ k := by
  have h : ∀ q : α × β, ∃ k, (∃ j, p q.1 q.2 j) → p q.1 q.2 k ∧ ∀ j, p q.1 q.2 j → k ≤ j := fun q => by
    by_cases c : ∃ j, p q.1 q.2 j
    · obtain ⟨k, hk⟩ := least_nat c
      exact ⟨k, fun _ => hk⟩
    · exact ⟨0, fun c' => absurd c' c⟩
  obtain ⟨f, hf⟩ := Classical.axiomOfChoice h
  exact ⟨fun x y => f (x, y), fun x y hk => hf (x, y) hk⟩
theorem row_one {W : World} {B g : Nat} {x : Int} (hB : B ≤ g) (h : Blk W g 3 #[.int .i64 x]) : W.ownsRow B 3 1 (.slice (some ⟨g, 0, none⟩) 1 1) 1 (iV [x]) := ⟨rfl, .inr ⟨g, 1, _, rfl, hB, h, Nat.le_refl _, by unfold maxLen; omega, rfl, rfl⟩⟩
theorem RC.drew {wb W : World} {P Q X Tb Fb pm qm : Nat} {ds : List InoD} {S Bs : List Int} (h : RC wb W P Q X Tb Fb pm qm ds S Bs) : RC wb W.drew P Q X Tb Fb pm qm ds S Bs := by
  obtain ⟨cnt, D, h1, h2, h3, h4⟩ := h.re
  obtain ⟨g, c, h5, h6⟩ := h.bx
  exact ⟨h.b.drew, h.zP, h.zQ, h.zF, h.lo, h.loX, h.nP, h.nQ, h.nF, h.nPX, h.nQX, h.nFX, h.inT, ⟨cnt, D, h1, h2, h3, h4.drew⟩, ⟨g, c, h5, h6.drew⟩⟩
/-- What the program's Reached answers. -/
def ReachPost (w : World) (ds : List InoD) (e : Ending) (w' : World) : Prop :=
  ∃ v, e = .returned v ∧ w'.ownsRow w.heap.size 3 1 v (reachD ds).length ((reachD ds).map encZ) ∧ Below w.heap.size w w'
set_option maxRecDepth 100000 in
set_option maxHeartbeats 4000000 in
theorem reachedI (a : Option Addr) (n cap : Nat) (nx : Int) (rs : List InoR) (w : World) (ht : TR w a n rs) (hwf : ∀ r ∈ rs, (Lit.int .i64 r.D.ino).wf = true) (hwe : ∀ r ∈ rs, ∀ e ∈ r.D.ents, (Lit.int .i64 e.2).wf = true) :
    Calls Tryz.prog 104 #[.agg #[.slice a n cap, .int .i64 nx]] w fun e w' => ReachPost w (rs.map InoR.D) e w' := by
  have hmn := makeNone
  have hmf : ∀ (fn : Fn) (first cap : Array Value) (w : World), (Instr.makeFunc fn first cap).run Tryz.prog w = .ok (.func fn first cap) w := fun _ _ _ _ => rfl
  have hsf := fun (a : Addr) (c : Array Value) (w : World) => run_store Tryz.prog w a (.func (.func 129) #[] c) .plain rfl
  have B0 : Below w.heap.size w (w.alloc (.cells #[.slice a n cap, .int .i64 nx] 47)) := (Below.refl _ w).alloc (Nat.le_refl _) _
  have z0 := Blk.new w 47 #[.slice a n cap, .int .i64 nx]
  have hcB := byNumber_any a n cap nx rs _ ht.len (by have := ht.n; omega) hwf (ht.rd.keep B0)
  have HT : Hid _ := ht.keep B0
  have HE : Hid _ := hwe
  have hn1 := ht.n
  have hdl : Hid ((rs.map InoR.D).length = n) := by show _ = _; rw [List.length_map, ht.len]
  obtain ⟨ds, hds⟩ : ∃ ds, rs.map InoR.D = ds := ⟨_, rfl⟩
  rw [hds] at hdl ⊢
  have HDS : Hid _ := hds
  clear ht hwe hwf hds
  go_enter Tryz.func104, Tryz.ntmps104
  go_wp2_with fail
  obtain ⟨W0, hW0⟩ : ∃ W, w.alloc (.cells #[.slice a n cap, .int .i64 nx] 47) = W := ⟨_, rfl⟩
  rw [hW0] at B0 z0 hcB HT ⊢
  clear hW0
  (with_reducible refine hcB.mono ?_)
  rintro e w1 ⟨cnt, Dp, rfl, hcnt, hM, hown, b1⟩
  obtain ⟨pm, hpm⟩ : ∃ pm, W0.heap.size + 1 = pm := ⟨_, rfl⟩
  rw [hpm] at hown ⊢
  have B1 := B0.trans (b1.mono B0.size)
  clear hcB
  go_wp2_with fail
  have hRC : RC w1 ((((((w1.alloc (.map #[] 0)).alloc (.cells #[.int .i64 1] 3)).alloc (.cells #[.map (some pm)] 159)).alloc (.cells #[.map (some w1.heap.size)] 159)).alloc (.cells #[.slice (some ⟨w1.heap.size + 1, 0, none⟩) 1 1] 80)).alloc (.cells #[.func (.func 129) #[] #[.pointer (some ⟨w1.heap.size + 1 + 1, 0, none⟩), .pointer (some ⟨w1.heap.size + 1 + 1 + 1, 0, none⟩), .pointer (some ⟨w1.heap.size + 1 + 1 + 1 + 1, 0, none⟩), .pointer (some ⟨w.heap.size, 0, none⟩), .pointer (some ⟨w1.heap.size + 1 + 1 + 1 + 1 + 1, 0, none⟩)]] 163)) (w1.heap.size + 1 + 1) (w1.heap.size + 1 + 1 + 1) (w1.heap.size + 1 + 1 + 1 + 1) w.heap.size (w1.heap.size + 1 + 1 + 1 + 1 + 1) pm w1.heap.size ds [] [1] := by
    have zP := ((Blk.new ((w1.alloc (.map #[] 0)).alloc (.cells #[.int .i64 1] 3)) 159 #[.map (some pm)]).alloc (.cells #[.map (some w1.heap.size)] 159) |>.alloc (.cells #[.slice (some ⟨w1.heap.size + 1, 0, none⟩) 1 1] 80)).alloc (.cells #[.func (.func 129) #[] #[.pointer (some ⟨w1.heap.size + 1 + 1, 0, none⟩), .pointer (some ⟨w1.heap.size + 1 + 1 + 1, 0, none⟩), .pointer (some ⟨w1.heap.size + 1 + 1 + 1 + 1, 0, none⟩), .pointer (some ⟨w.heap.size, 0, none⟩), .pointer (some ⟨w1.heap.size + 1 + 1 + 1 + 1 + 1, 0, none⟩)]] 163)
    have zQ := ((Blk.new (((w1.alloc (.map #[] 0)).alloc (.cells #[.int .i64 1] 3)).alloc (.cells #[.map (some pm)] 159)) 159 #[.map (some w1.heap.size)]).alloc (.cells #[.slice (some ⟨w1.heap.size + 1, 0, none⟩) 1 1] 80)).alloc (.cells #[.func (.func 129) #[] #[.pointer (some ⟨w1.heap.size + 1 + 1, 0, none⟩), .pointer (some ⟨w1.heap.size + 1 + 1 + 1, 0, none⟩), .pointer (some ⟨w1.heap.size + 1 + 1 + 1 + 1, 0, none⟩), .pointer (some ⟨w.heap.size, 0, none⟩), .pointer (some ⟨w1.heap.size + 1 + 1 + 1 + 1 + 1, 0, none⟩)]] 163)
    have zX := (Blk.new ((((w1.alloc (.map #[] 0)).alloc (.cells #[.int .i64 1] 3)).alloc (.cells #[.map (some pm)] 159)).alloc (.cells #[.map (some w1.heap.size)] 159)) 80 #[.slice (some ⟨w1.heap.size + 1, 0, none⟩) 1 1]).alloc (.cells #[.func (.func 129) #[] #[.pointer (some ⟨w1.heap.size + 1 + 1, 0, none⟩), .pointer (some ⟨w1.heap.size + 1 + 1 + 1, 0, none⟩), .pointer (some ⟨w1.heap.size + 1 + 1 + 1 + 1, 0, none⟩), .pointer (some ⟨w.heap.size, 0, none⟩), .pointer (some ⟨w1.heap.size + 1 + 1 + 1 + 1 + 1, 0, none⟩)]] 163)
    have zF := Blk.new (((((w1.alloc (.map #[] 0)).alloc (.cells #[.int .i64 1] 3)).alloc (.cells #[.map (some pm)] 159)).alloc (.cells #[.map (some w1.heap.size)] 159)).alloc (.cells #[.slice (some ⟨w1.heap.size + 1, 0, none⟩) 1 1] 80)) 163 #[.func (.func 129) #[] #[.pointer (some ⟨w1.heap.size + 1 + 1, 0, none⟩), .pointer (some ⟨w1.heap.size + 1 + 1 + 1, 0, none⟩), .pointer (some ⟨w1.heap.size + 1 + 1 + 1 + 1, 0, none⟩), .pointer (some ⟨w.heap.size, 0, none⟩), .pointer (some ⟨w1.heap.size + 1 + 1 + 1 + 1 + 1, 0, none⟩)]]
    have zR := ((((Blk.new (w1.alloc (.map #[] 0)) 3 #[.int .i64 1]).alloc (.cells #[.map (some pm)] 159)).alloc (.cells #[.map (some w1.heap.size)] 159)).alloc (.cells #[.slice (some ⟨w1.heap.size + 1, 0, none⟩) 1 1] 80)).alloc (.cells #[.func (.func 129) #[] #[.pointer (some ⟨w1.heap.size + 1 + 1, 0, none⟩), .pointer (some ⟨w1.heap.size + 1 + 1 + 1, 0, none⟩), .pointer (some ⟨w1.heap.size + 1 + 1 + 1 + 1, 0, none⟩), .pointer (some ⟨w.heap.size, 0, none⟩), .pointer (some ⟨w1.heap.size + 1 + 1 + 1 + 1 + 1, 0, none⟩)]] 163)
    have hom := (((((World.ownsMap_made (H := Unit) w1 Tryz.prog 3 (plainElem Tryz.prog 3)).alloc (.cells #[.int .i64 1] 3)).alloc (.cells #[.map (some pm)] 159)).alloc (.cells #[.map (some w1.heap.size)] 159)).alloc (.cells #[.slice (some ⟨w1.heap.size + 1, 0, none⟩) 1 1] 80)).alloc (.cells #[.func (.func 129) #[] #[.pointer (some ⟨w1.heap.size + 1 + 1, 0, none⟩), .pointer (some ⟨w1.heap.size + 1 + 1 + 1, 0, none⟩), .pointer (some ⟨w1.heap.size + 1 + 1 + 1 + 1, 0, none⟩), .pointer (some ⟨w.heap.size, 0, none⟩), .pointer (some ⟨w1.heap.size + 1 + 1 + 1 + 1 + 1, 0, none⟩)]] 163)
    simp only [World.size_alloc] at zP zQ zX zF zR
    have hb : Below w1.heap.size w1 ((((((w1.alloc (.map #[] 0)).alloc (.cells #[.int .i64 1] 3)).alloc (.cells #[.map (some pm)] 159)).alloc (.cells #[.map (some w1.heap.size)] 159)).alloc (.cells #[.slice (some ⟨w1.heap.size + 1, 0, none⟩) 1 1] 80)).alloc (.cells #[.func (.func 129) #[] #[.pointer (some ⟨w1.heap.size + 1 + 1, 0, none⟩), .pointer (some ⟨w1.heap.size + 1 + 1 + 1, 0, none⟩), .pointer (some ⟨w1.heap.size + 1 + 1 + 1 + 1, 0, none⟩), .pointer (some ⟨w.heap.size, 0, none⟩), .pointer (some ⟨w1.heap.size + 1 + 1 + 1 + 1 + 1, 0, none⟩)]] 163)) := ((((((Below.refl _ w1).alloc (Nat.le_refl _) _).alloc (by simp) _).alloc (by simp; omega) _).alloc (by simp; omega) _).alloc (by simp; omega) _).alloc (by simp; omega) _
    exact ⟨hb, zP, zQ, zF, Nat.le_refl _, by omega, by omega, by omega, by omega, by omega, by omega, by omega, ⟨List.nodup_nil, fun x hx => by simp at hx⟩, ⟨0, _, Nat.le_refl _, fun y => by simp [Maps.has], isMap_empty, hom⟩, ⟨_, 1, zX, row_one (Nat.le_succ _) zR⟩⟩
  have hcl := fun (x : Int) (W : World) (S Bs : List Int) (hx : (Lit.int .i64 x).wf = true) (hb : Bs.length ≤ 1 + mXE * S.length) (h : RC w1 W (w1.heap.size + 1 + 1) (w1.heap.size + 1 + 1 + 1) (w1.heap.size + 1 + 1 + 1 + 1) w.heap.size (w1.heap.size + 1 + 1 + 1 + 1 + 1) pm w1.heap.size (rs.map InoR.D) S Bs) => reachC (w1.heap.size + 1 + 1) (w1.heap.size + 1 + 1 + 1) (w1.heap.size + 1 + 1 + 1 + 1) w.heap.size (w1.heap.size + 1 + 1 + 1 + 1 + 1) pm w1.heap.size a n cap nx rs w1 (HT.out.keep b1) (z0.keep b1) cnt Dp hM hown HE.out n x 0 W S Bs hx (by omega) (by omega) hb h
  rw [HDS.out] at hcl
  obtain ⟨P, hP⟩ : ∃ P, w1.heap.size + 1 + 1 = P := ⟨_, rfl⟩
  rw [hP] at hRC hcl ⊢
  obtain ⟨Q, hQ⟩ : ∃ Q, P + 1 = Q := ⟨_, rfl⟩
  rw [hQ] at hRC hcl ⊢
  obtain ⟨X, hX⟩ : ∃ X, Q + 1 = X := ⟨_, rfl⟩
  rw [hX] at hRC hcl ⊢
  obtain ⟨Fb, hF⟩ : ∃ Fb, X + 1 = Fb := ⟨_, rfl⟩
  rw [hF] at hRC hcl ⊢
  obtain ⟨mea, hmea⟩ := least_fn (fun (i : Value) (wi : World) (v : Nat) => ∃ (k : Nat) (S Bs : List Int), i = .int .i64 k ∧ RC w1 wi P Q X w.heap.size Fb pm w1.heap.size ds S Bs ∧ RM ds S Bs k ∧ v = leftV n S Bs k)
  have HMEA : Hid _ := hmea
  have HCL : Hid _ := hcl
  have HRC : Hid _ := hRC
  have HB1 : Hid _ := B1
  have hBn : Hid (n ≤ 1048576) := hn1
  have hbb : Hid _ := b1
  clear hRC hM hown z0 hcl hmea hP hQ hX hF HT HE B0 B1 b1 hcnt
  go_loopw [7] (fun i wi => Hid (∃ (v k : Nat) (S Bs : List Int), i = .int .i64 k ∧ RC w1 wi P Q X w.heap.size Fb pm w1.heap.size ds S Bs ∧ RM ds S Bs k ∧ v = leftV n S Bs k)) (fun i wi => mea i wi)
  case atStart => exact ⟨_, 0, [], [1], rfl, HRC.out, RM.start ds, rfl⟩
  case round =>
    have hq := HMEA.out _ _ hrel.out
    obtain ⟨⟨k, S, Bs, rfl, hC, hMk, hmv⟩, -⟩ := hq
    clear hrel HRC
    obtain ⟨gb, cb, hbx⟩ := hC.bx
    have y0 := hbx.cell.cell 0
    have yF := hC.zF.cell 0
    have yQ := hC.zQ.cell 0
    simp at y0 yF yQ
    obtain ⟨lb, hlb⟩ : ∃ lb, Bs.length = lb := ⟨_, rfl⟩
    rw [hlb] at y0
    have hlen := hC.inT.len
    rw [hdl.out] at hlen
    have hlb2 : lb ≤ 2000000000000 := by
      have h1 := hMk.count
      have : mXE * S.length ≤ 1048576 * 1048576 := Nat.mul_le_mul (by unfold mXE; omega) (by have := hBn.out; omega)
      omega
    have hkl := hMk.le
    rw [hlb] at hkl
    by_cases hkn : k < lb
    · have hki : (k : Int) < (lb : Int) := by omega
      have hk0 : (0 : Int) ≤ (k : Int) := by omega
      have hkb : k < Bs.length := by omega
      obtain ⟨y, hy⟩ : ∃ y, Bs[k]? = some y := ⟨_, List.getElem?_eq_getElem hkb⟩
      have hcr : wr.cell? ⟨gb, k, none⟩ = some (.int .i64 y) := by
        rw [World.ownsRow.cellAt hbx.row k (by omega)]
        exact iV_at hy
      have hcall := HCL.out y wr.drew S Bs (hMk.wfs y (List.mem_of_getElem? hy)) hMk.count hC.drew
      rw [show ((0 : Nat) : Int) = 0 from rfl] at hcall
      have HY : Hid _ := hy
      have HMK : Hid _ := hMk
      have HMV : Hid _ := hmv
      have HKB : Hid _ := hkb
      have HND : Hid _ := hC.inT.nd
      clear hbx hlb hlen hMk hmv hC yQ hy hkb
      go_upto_region 7 with fail
      go_region_law (first
        | (go_simp; (with_reducible refine hcall.mono ?_); rintro e w5 ⟨rfl, S2, B2, hC5, hP5⟩; dsimp only)
        | fail)
      all_goals (
        have hP5 : RP ds S Bs y 0 S2 B2 := hP5
        have hsub := sub_len HND.out hP5.sub
        have hl2 := hC5.inT.len
        rw [hdl.out] at hl2
        have hstep : Hid _ := left_step hl2 hsub HKB.out hP5
        have hnx : Hid (∃ (v k' : Nat) (S Bs : List Int), (.int .i64 ((k + 1 : Nat) : Int) : Value) = .int .i64 k' ∧ RC w1 w5 P Q X w.heap.size Fb pm w1.heap.size ds S Bs ∧ RM ds S Bs k' ∧ v = leftV n S Bs k') := ⟨_, k + 1, S2, B2, rfl, hC5, HMK.out.step HY.out hP5, rfl⟩
        have hms : Hid (mea (.int .i64 ((k + 1 : Nat) : Int)) w5 < mea (.int .i64 (k : Int)) wr) := by
          have h1 := (HMEA.out (.int .i64 ((k + 1 : Nat) : Int)) w5 hnx.out).2 _ ⟨k + 1, S2, B2, rfl, hC5, HMK.out.step HY.out hP5, rfl⟩
          have h2 := hstep.out
          rw [HMV.out]
          exact Nat.lt_of_le_of_lt h1 h2
        rw [show ((k + 1 : Nat) : Int) = (k : Int) + 1 by omega] at hnx hms
        clear hcall hP5 hC5 y0 yF hcr hstep hsub hl2
        go_wp2
        go_roundw
        case rel => exact hnx
        case measure => exact hms.out)
    · have hki : ¬ (k : Int) < (lb : Int) := by omega
      have hkb : Bs.length ≤ k := by omega
      have HB5 : Hid _ := HB1.out.trans (hC.b.mono HB1.out.size)
      obtain ⟨cn, D, hcn, hhas, hIM, hqo⟩ := hC.re
      have hpk := perm_keys hqo hC.inT.nd hhas
      have hsz : Maps.size D ≤ 1048576 := by
        rw [size_keys hIM, ← hpk.length_eq]
        have := hBn.out
        omega
      have hst := sortedK w1.heap.size cn D wr hqo (by unfold maxLen; omega) (by omega)
      have HRD : Hid (∀ ss : List Int, ss.Perm (intKeys D) → ss.mergeSort (fun x y => decide (x ≤ y)) = reachD ds) := by
        intro ss hss
        have hsp := hss.trans hpk.symm
        refine reachD_sort (hsp.nodup_iff.2 hC.inT.nd) (fun y => ?_)
        rw [hsp.mem_iff]
        refine reachD_iff (S := S) (hMk.one_end hkb) (hMk.closed_end hkb) hMk.leads (fun hl => ?_) y
        refine List.eq_nil_iff_forall_not_mem.2 (fun y hy => ?_)
        exact leads_none hl (hMk.leads y hy)
      clear hC hMk hmv hbx hpk hlen hsz hhas hIM hqo hcn hlb
      go_wp2_with fail
      (with_reducible refine (keysK (some w1.heap.size) wr).mono ?_)
      rintro e w6 ⟨rfl, hw6⟩
      obtain rfl := hw6.symm
      clear hw6
      go_wp2_with fail
      (with_reducible refine hst.mono ?_)
      rintro e w7 ⟨v, ss, rfl, hS, hrow, hb7⟩
      have hlq := congrArg List.length (HRD.out ss hS)
      rw [List.length_mergeSort] at hlq
      rw [HRD.out ss hS, hlq] at hrow
      have hbb : Below w.heap.size w (wr.alloc (.cells #[.map (some w1.heap.size)] 159)) := HB5.out.alloc HB5.out.size _
      have hz5 := HB5.out.size
      have hend : Hid (ReachPost w ds (.returned v) w7) := ⟨v, rfl, ownsRow_base_a hrow (by omega), hbb.trans (hb7.mono (by omega))⟩
      clear hrow hb7 hbb yQ hst hlq
      go_wp2
      go_ret
      exact hend.out
end
end Go.Proofs.YtfjlemnohjnkhaaGreat
