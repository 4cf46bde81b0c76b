/-
  Joined: ChNi, ChEi, ChEn, ChBi, DvA, DvE, DvX, DvL, DvN, PwM, DvBE, SamL, DrSm, FiW, PwW, PwZ.
-/
import Derived.Test.YtoeeblmnogeonaaGreatDoorPwE
namespace Go.Proofs.YtoeeblmnogeonaaGreatDoor
section
open Go.RowKit
theorem fkZ_D : fkZ.D = bkN := rfl
theorem made_rdFs {w : World} {g n : Nat} (h : w.ownsRow 0 154 18 (.slice (some ⟨g, 0, none⟩) n n) n (madeCells (Value.agg #[.bool false, .slice none 0 0, .bool false, .slice none 0 0, .bool false, .slice none 0 0, .bool false, .slice none 0 0, .bool false, .slice none 0 0, .bool false, .slice none 0 0, .bool false, .slice none 0 0, .bool false, .slice none 0 0, .int .i64 0, .bool false]).cells (n * 18)).toList) : RdFs w (some ⟨g, 0, none⟩) (List.replicate n fkZ) := by
  have h1 : OwnE fkE 154 w (.slice (some ⟨g, 0, none⟩) n n) n (List.replicate n fkZ) := made_row fkE fkZ (.agg #[.bool false, .slice none 0 0, .bool false, .slice none 0 0, .bool false, .slice none 0 0, .bool false, .slice none 0 0, .bool false, .slice none 0 0, .bool false, .slice none 0 0, .bool false, .slice none 0 0, .bool false, .slice none 0 0, .int .i64 0, .bool false]) rfl h
  obtain ⟨a, c, e, r⟩ := OwnE.rd (rd := fun f : FkR => ∀ p ∈ f.ps, Rd w p.a p.zs) h1 (fun f hf p hp => by
    rw [List.mem_replicate] at hf
    rw [hf.2] at hp
    have : p ∈ List.replicate 8 pgZ := hp
    rw [List.mem_replicate] at this
    rw [this.2]
    exact .inl rfl)
  simp only [Value.slice.injEq] at e
  rw [e.1]
  exact r
set_option maxRecDepth 100000 in
set_option maxHeartbeats 4000000 in
theorem chipNewI (x : Int) (w : World) : Calls Tryz.prog 66 #[.int .i64 x] w (ChA w (newD x)) := by
  have B0 : Below w.heap.size w (w.alloc (.cells #[.slice none 0 0] 26)) := (Below.refl _ w).alloc (Nat.le_refl _) _
  have z0 := Blk.new w 26 #[.slice none 0 0]
  have hcnt := countOkI x (w.alloc (.cells #[.slice none 0 0] 26))
  by_cases hx : 3 ≤ x ∧ x ≤ 24
  · obtain ⟨n, rfl⟩ : ∃ n : Nat, x = (n : Int) := ⟨x.toNat, by omega⟩
    have hnn : n ≤ 24 := by omega
    have hd : (decide (3 ≤ (n : Int)) && decide ((n : Int) ≤ 24)) = true := by simp; omega
    rw [hd] at hcnt
    have HD : Hid (newD (n : Int) = (List.replicate n fkZ).map FkR.D) := by show _ = _; unfold newD; rw [if_pos hx]; simp [fkZ_D]
    obtain ⟨i0, hi, hz0, hz1, hz2⟩ := info_parts Tryz.infoCells
    have hm : n ≤ maxLen := by unfold maxLen; omega
    have hby : i0.bytes * n ≤ 281474976710656 := by rw [hz2]; omega
    have HB0 : Hid _ := B0
    clear hx hd B0
    rw [HD.out]
    generalize hGP : ChA w ((List.replicate n fkZ).map FkR.D) = P
    have HGP : Hid _ := hGP
    clear hGP
    go_enter Tryz.func66, Tryz.ntmps66
    go_wp2_with fail
    refine hcnt.mono ?_
    rintro e w1 ⟨rfl, hw⟩
    obtain rfl := hw.symm
    go_wp2_with (at_make; refine wpList_make_full _ rfl (.tmp 8) (.tmp 8) 140 rfl 0 154 i0 _ 18 Tryz.underlying140 hi hz0 hz1 .i64 .i64 _ _ n rfl rfl rfl rfl hby hm (Nat.zero_le _) ?_; intro w2 hown hgrow)
    have rf := made_rdFs hown
    have b2 : Below (w.alloc (.cells #[.slice none 0 0] 26)).heap.size (w.alloc (.cells #[.slice none 0 0] 26)) w2 := (Below.refl _ _).grown hgrow (Nat.le_refl _) (by simp)
    have z2 := z0.keep b2
    have B2 : Below w.heap.size w w2 := HB0.out.trans (b2.mono HB0.out.size)
    have b3 : Below w2.heap.size w2 (w2.alloc (.cells #[.slice (some ⟨(w.alloc (.cells #[.slice none 0 0] 26)).heap.size, 0, none⟩) n n] 142)) := (Below.refl _ w2).alloc (Nat.le_refl _) _
    have zF := Blk.new w2 142 #[.slice (some ⟨(w.alloc (.cells #[.slice none 0 0] 26)).heap.size, 0, none⟩) n n]
    have htt : totB ((List.replicate n fkZ).map FkR.D) ≤ 1048576 := by
      have : totB ((List.replicate n fkZ).map FkR.D) = n * 9 := by
        simp only [List.map_replicate, totB, List.map_replicate, List.sum_replicate_nat]
        rfl
      omega
    have hcall := handedI w2.heap.size (some ⟨(w.alloc (.cells #[.slice none 0 0] 26)).heap.size, 0, none⟩) n n (List.replicate n fkZ) _ (by simp) htt zF (rf.keep b3)
    have hz3 := z2.keep b3
    obtain ⟨H, hH⟩ : ∃ H, w.heap.size = H := ⟨_, rfl⟩
    have hs1 : (w.alloc (.cells #[.slice none 0 0] 26)).heap.size = w.heap.size + 1 := by simp
    rw [hs1] at hcall zF
    obtain ⟨W3, hW3⟩ : ∃ W, w2.alloc (.cells #[.slice (some ⟨w.heap.size + 1, 0, none⟩) n n] 142) = W := ⟨_, rfl⟩
    rw [hs1] at b3 hz3
    rw [hW3] at b3 hz3 hcall
    have HB3 : Hid (Below w.heap.size w W3) := B2.trans (b3.mono B2.size)
    rw [hH] at hz3
    clear hown hgrow b2 z2 rf zF htt hs1 hi hz0 hz1 hz2 hby B2 b3 hcnt z0
    go_wp2_with fail
    rw [hW3, hH]
    clear hW3
    refine hcall.mono ?_
    rintro e w4 ⟨a1, n1, c1, qs, rfl, hnb, hl, b4⟩
    have z4 := hz3.keep b4
    have x0 := z4.cell 0
    have f0 := z4.frozen 0
    have zf := z4.set 0 (.slice a1 n1 c1)
    have d0 := zf.cell 0
    simp at x0 d0
    have HNB : Hid _ := hnb
    have HB4 : Hid (Below w.heap.size w w4) := HB3.out.trans (b4.mono HB3.out.size)
    have HLT : Hid (H < W3.heap.size) := hz3.lt
    have HHH : Hid (w.heap.size = H) := hH
    clear hcall z4 zf hnb hz3 b4
    go_wp2
    refine bodyPost_ret (v := .agg #[.slice a1 n1 c1]) (by simp [results, Tryz.f66, go_sem, d0]) rfl ?_
    rw [← HGP.out]
    have h1 := HHH.out
    have h2 := HB3.out.size
    exact ⟨a1, n1, c1, qs, rfl, NewBs.wider (B := W3.heap.size) (NewBs.set_below (B := W3.heap.size) (j := H) HNB.out HLT.out) h2, hl, HB4.out.setCell (p := ⟨H, 0, none⟩) (by simp only; omega) _⟩
  · have hd : (decide (3 ≤ x) && decide (x ≤ 24)) = false := by
      rw [← Bool.not_eq_true]; intro h; simp at h; exact hx h
    rw [hd] at hcnt
    have HD : Hid (newD x = []) := by show _ = _; unfold newD; rw [if_neg hx]
    rw [HD.out]
    generalize hGP : ChA w [] = P
    have HGP : Hid _ := hGP
    have HB0 : Hid _ := B0
    clear hGP hd hx B0 z0
    go_enter Tryz.func66, Tryz.ntmps66
    go_wp2_with fail
    refine hcnt.mono ?_
    rintro e w1 ⟨rfl, hw⟩
    obtain rfl := hw.symm
    go_wp2
    refine bodyPost_ret (v := .agg #[.slice none 0 0]) (by simp [results, Tryz.f66, go_sem]) rfl ?_
    rw [← HGP.out]
    refine ⟨none, 0, 0, [], rfl, ⟨rfl, ⟨ownE_nil _ _ _, fun b hb => by simp at hb⟩, fun g hg => by simp [fpBs, Value.ownBlock] at hg, by simp [fpBs, Value.ownBlock]⟩, rfl, ?_⟩
    exact HB0.out
end

section
open Go.RowKit
theorem pgs_8 (f : FkR) : f.pgs 0 (List.replicate 8 pgZ) = ⟨List.replicate 8 pgZ, f.wear, f.bad, rfl⟩ := by
  obtain ⟨q0, q1, q2, q3, q4, q5, q6, q7, hq⟩ := list8 f.h8
  refine FkR.ext' ?_ rfl rfl
  simp [FkR.pgs, FkR.pg, List.replicate, hq]
theorem Tryz.sizePages : (Tryz.prog.info? 152).map (·.size) = some 16 := by kernel_rfl
/-- What erase refuses; the flash behind it. -/
def erC (fs : List FkR) (x : Int) : Int := if btcC fs x = 0 then (if (fs[x.toNat]?).map FkR.wear = some 100000 then 5 else 0) else btcC fs x
def erAt (fs : List FkR) (k : Nat) : List FkR := match fs[k]? with | some f => fs.set k ⟨List.replicate 8 pgZ, f.wear + 1, f.bad, rfl⟩ | none => fs
end

section
open Go.RowKit
set_option maxRecDepth 100000 in
set_option maxHeartbeats 4000000 in
theorem bteI (F G n : Nat) (fs : List FkR) (x : Int) (w0 w : World) (hn : n ≤ 1048576) (h : FO w0 w F G n fs) :
    Calls Tryz.prog 112 #[.pointer (some ⟨F, 0, none⟩), .int .i64 x] w fun e w' => e = .returned (.tuple #[if erC fs x = 0 then .pointer (some ⟨G, x.toNat * 18, none⟩) else .pointer none, errV (erC fs x)]) ∧ w' = w := by
  have hcall := btcI F G n fs x w0 w hn h
  by_cases hc : btcC fs x = 0
  · obtain ⟨k, f, rfl, hf⟩ := btc_zero hc
    rw [if_pos hc, hc, errV_zero, Int.toNat_natCast] at hcall
    have c16 : w.cell? ⟨G, k * 18 + 16, none⟩ = some (.int .i64 f.wear) := by
      rw [h.cell hf (by omega)]
      show (pgE.xv f.ps ++ [Value.int .i64 f.wear, Value.bool f.bad])[16]? = _
      rw [List.getElem?_append_right (by rw [xv16]; omega), xv16]
      rfl
    have hee : erC fs (k : Int) = if f.wear = 100000 then 5 else 0 := by unfold erC; rw [if_pos hc]; simp [hf]
    rw [hee, Int.toNat_natCast]
    generalize f.wear = wear at c16
    clear h hf hc hee
    by_cases h5 : wear = 100000
    · subst h5
      go_enter Tryz.func112, Tryz.ntmps112
      go_wp2_with fail
      refine hcall.mono ?_
      rintro e w1 ⟨rfl, hw⟩
      obtain rfl := hw.symm
      go_wp2
      refine bodyPost_ret (v := .tuple #[.pointer none, .iface 149 (.int .i64 5)]) (by simp [results, Tryz.f112, go_sem]) rfl ?_
      exact ⟨by simp [errV], rfl⟩
    · have h5b : (wear == 100000) = false := by simp [h5]
      rw [if_neg h5]
      go_enter Tryz.func112, Tryz.ntmps112
      go_wp2_with fail
      refine hcall.mono ?_
      rintro e w1 ⟨rfl, hw⟩
      obtain rfl := hw.symm
      go_wp2
      refine bodyPost_ret (v := .tuple #[.pointer (some ⟨G, k * 18, none⟩), .nilIface]) (by simp [results, Tryz.f112, go_sem]) rfl ?_
      exact ⟨by simp [errV], rfl⟩
  · have hee : erC fs x = btcC fs x := by unfold erC; rw [if_neg hc]
    rw [if_neg hc, errV_some hc] at hcall
    rw [hee, if_neg hc, errV_some hc]
    generalize btcC fs x = c at hcall
    clear h hc hee
    go_enter Tryz.func112, Tryz.ntmps112
    go_wp2_with fail
    refine hcall.mono ?_
    rintro e w1 ⟨rfl, hw⟩
    obtain rfl := hw.symm
    go_wp2
    refine bodyPost_ret (v := .tuple #[.pointer none, .iface 149 (.int .i64 c)]) (by simp [results, Tryz.f112, go_sem]) rfl ?_
    exact ⟨rfl, rfl⟩
theorem setCells_sv (w : World) (G : Nat) : ∀ (vs : List Value) (o : Nat), Sv [G] w (w.setCells G o vs)
  | [], _ => Sv.refl _ _
  | v :: vs, o => (Sv.gr (gr_setC w G o v) (fun g hg => by simp at hg; simp [hg])).trans (setCells_sv (w.setCell ⟨G, o, none⟩ v) G vs (o + 1))
set_option maxRecDepth 100000 in
set_option maxHeartbeats 4000000 in
theorem cEraseI (F G n k : Nat) (fs : List FkR) (f : FkR) (w0 w : World) (h : FO w0 w F G n fs) (hf : fs[k]? = some f) (hw : 0 ≤ f.wear ∧ f.wear ≤ 100000) :
    Calls Tryz.prog 114 #[.pointer (some ⟨G, k * 18, none⟩)] w (FOA w0 w F G n (erAt fs k)) := by
  obtain ⟨hw1, hw2⟩ := hw
  generalize hGP : FOA w0 w F G n (erAt fs k) = P
  have HGP : Hid _ := hGP
  clear hGP
  obtain ⟨wear, hwe⟩ : ∃ wear, f.wear = wear := ⟨_, rfl⟩
  rw [hwe] at hw1 hw2
  have hth : w.there G (k * 18) 16 := fun j hj => by
    obtain ⟨v, hv⟩ := h.is hf (j := j) (by omega)
    rw [hv]
    exact ⟨rfl, h.g.frozen _⟩
  have f6 := FO.put (k := k) (List.replicate 8 pgZ) 0 w fs f h hf (by simp)
  rw [pgs_8, Nat.zero_mul, Nat.add_zero] at f6
  have g6 := f6.one (j := 16) (x := .int .i64 (wear + 1)) (get_set hf) (by omega) (en_wear _ (wear + 1))
  rw [List.set_set] at g6
  have hgs : erAt fs k = fs.set k (FkR.wearTo ⟨List.replicate 8 pgZ, f.wear, f.bad, rfl⟩ (wear + 1)) := by
    unfold erAt
    rw [hf]
    dsimp only
    rw [hwe]
    rfl
  rw [← hgs] at g6
  have c16' : (w.setCells G (k * 18) (pgE.xv (List.replicate 8 pgZ))).cell? ⟨G, k * 18 + 16, none⟩ = some (.int .i64 wear) := by
    rw [f6.cell (get_set hf) (by omega)]
    show (pgE.xv (List.replicate 8 pgZ) ++ [Value.int .i64 f.wear, Value.bool f.bad])[16]? = _
    rw [hwe]
    rfl
  have r16 := f6.g.frozen (k * 18 + 16)
  have hsv := (setCells_sv w G (pgE.xv (List.replicate 8 pgZ)) (k * 18)).trans (Sv.gr (gr_setC _ G (k * 18 + 16) (.int .i64 (wear + 1))) (fun g hg => by simp at hg; simp [hg]))
  have hxx : pgE.xv (List.replicate 8 pgZ) = (#[.bool false, .slice none 0 0, .bool false, .slice none 0 0, .bool false, .slice none 0 0, .bool false, .slice none 0 0, .bool false, .slice none 0 0, .bool false, .slice none 0 0, .bool false, .slice none 0 0, .bool false, .slice none 0 0] : Array Value).toList := rfl
  rw [hxx] at c16' r16 g6 hsv
  obtain ⟨Z, hZ⟩ : ∃ Z : Array Value, Z = #[.bool false, .slice none 0 0, .bool false, .slice none 0 0, .bool false, .slice none 0 0, .bool false, .slice none 0 0, .bool false, .slice none 0 0, .bool false, .slice none 0 0, .bool false, .slice none 0 0, .bool false, .slice none 0 0] := ⟨_, rfl⟩
  have hZs : Z.size = 16 := by rw [hZ]; rfl
  have hZ1 : Z.all (·.oneCell') = true := by rw [hZ]; simp [Value.oneCell']
  rw [← hZ] at c16' r16 g6 hsv
  have HZ : Hid _ := hZ
  have HTH : Hid (w.there G (k * 18) Z.size) := by rw [hZs]; exact hth
  have HS16 : Hid ((Tryz.prog.info? 152).map (·.size) = some Z.size) := by show _ = _; rw [Tryz.sizePages, hZs]
  have HZ1 : Hid _ := hZ1
  have HG6 : Hid _ := And.intro g6 hsv
  have hwr : IntKind.i64.wrap (wear + 1) = wear + 1 := wrap_small _ (by omega) (by omega)
  obtain ⟨W6, hW6⟩ : ∃ W, w.setCells G (k * 18) Z.toList = W := ⟨_, rfl⟩
  have HW6 : Hid _ := hW6
  rw [hW6] at c16' r16 HG6
  clear h hf hwe hth f6 g6 hgs hxx hZ hZs hZ1 hW6 hsv
  go_enter Tryz.func114, Tryz.ntmps114
  go_upto_region 1 with (refine wpList_store_mid rfl 152 (.tmp 5) (.tmp 3) rfl G (k * 18) Z rfl (by rw [HZ.out]; rfl) HTH.out HS16.out HZ1.out ?_; rw [HW6.out])
  go_wp2
  try go_end0
  rw [← HGP.out]
  exact ⟨rfl, HG6.out.1, HG6.out.2⟩
end

section
open Go.RowKit
/-- The flash's code and the flash behind an erase are the chip's. -/
theorem er_code {bs : List BkR} {fs : List FkR} (h : FlOf bs fs) (hw : ∀ f ∈ fs, 0 ≤ f.wear ∧ f.wear ≤ 100000) (x : Int) : erC fs x = codeE true (bs.map BkR.D) x := by
  by_cases hx : 0 ≤ x ∧ x < (bs.length : Int)
  · obtain ⟨k, rfl⟩ : ∃ k : Nat, x = (k : Int) := ⟨x.toNat, by omega⟩
    obtain ⟨r, hr⟩ : ∃ r, bs[k]? = some r := ⟨_, List.getElem?_eq_getElem (by omega)⟩
    obtain ⟨f, hf, _, h2, h3⟩ := h.2 k _ hr
    have h4 := hw f (List.mem_of_getElem? hf)
    unfold codeE
    rw [mayD_in hr, wornAt_in hr]
    unfold erC
    rw [btcC_in hf, ← h3, ← h2]
    cases f.bad with
    | true => simp
    | false =>
      simp only [Int.toNat_natCast, hf, Option.map_some, Option.some.injEq]
      by_cases h5 : f.wear = 100000
      · simp [h5]
      · have : ¬ (100000 : Int) ≤ f.wear := by omega
        simp [h5, this]
  · have h1 := h.1
    have hb : btcC fs x = 1 := by unfold btcC; rw [if_pos (by omega)]
    unfold erC codeE
    rw [hb, mayD_form (.inr (by simp; omega))]
    rfl
end

section
open Go.RowKit
set_option maxRecDepth 100000 in
set_option maxHeartbeats 4000000 in
theorem faultAtI (a : Option Addr) (n cap : Nat) (ops : Int) (fa : Option Addr) (m fc : Nat) (fs : List FtD) (down : Bool) (w : World) (hf : FR w fa m fs) :
    Calls Tryz.prog 25 #[.agg #[.slice a n cap, .int .i64 ops, .slice fa m fc, .bool down]] w (FaA w (faD ops fs)) := by
  have B0 : Below w.heap.size w ((w.alloc (.cells #[.slice a n cap, .int .i64 ops, .slice fa m fc, .bool down] 29)).alloc (.cells #[.int .i64 0, .int .i64 0, .int .i64 0] 51)) := ((Below.refl _ w).alloc (Nat.le_refl _) _).alloc (by simp) _
  have z1 := Blk.new (w.alloc (.cells #[.slice a n cap, .int .i64 ops, .slice fa m fc, .bool down] 29)) 51 #[.int .i64 0, .int .i64 0, .int .i64 0]
  simp only [World.size_alloc] at z1
  have hcall := faultOfI fa m fc fs ops ((w.alloc (.cells #[.slice a n cap, .int .i64 ops, .slice fa m fc, .bool down] 29)).alloc (.cells #[.int .i64 0, .int .i64 0, .int .i64 0] 51)) (hf.keep B0)
  have HB : Hid _ := B0
  obtain ⟨o, ho⟩ : ∃ o, faD ops fs = o := ⟨_, rfl⟩
  rw [ho] at hcall ⊢
  generalize hGP : FaA w o = P
  have HGP : Hid _ := hGP
  clear hf B0 hGP ho
  go_enter Tryz.func25, Tryz.ntmps25
  go_wp2_with fail
  refine hcall.mono ?_
  rintro e w1 ⟨rfl, hb1⟩
  have zr := z1.keep hb1
  obtain ⟨t, ht⟩ : ∃ t, (o.getD ftZ).tm = t := ⟨_, rfl⟩
  obtain ⟨u, hu⟩ : ∃ t, (o.getD ftZ).kd = t := ⟨_, rfl⟩
  obtain ⟨v, hv⟩ : ∃ t, (o.getD ftZ).kp = t := ⟨_, rfl⟩
  obtain ⟨q, hq⟩ : ∃ t, o.isSome = t := ⟨_, rfl⟩
  rw [ht, hu, hv, hq]
  have HO : Hid _ := And.intro ht (And.intro hu (And.intro hv hq))
  have r0 := zr.cell 0
  have r1 := zr.cell 1
  have r2 := zr.cell 2
  have f0 := zr.frozen 0
  have f1 := zr.frozen 1
  have f2 := zr.frozen 2
  have zf := ((zr.set 0 (.int .i64 t)).set 1 (.int .i64 u)).set 2 (.int .i64 v)
  have d0 := zf.cell 0
  have d1 := zf.cell 1
  have d2 := zf.cell 2
  simp at r0 r1 r2 d0 d1 d2
  have HB1 := HB.out.trans (hb1.mono HB.out.size)
  have HBB : Hid _ := HB1
  clear zr zf hcall z1 hb1 HB1 ht hu hv hq
  go_wp2
  refine bodyPost_ret (v := .tuple #[.agg #[.int .i64 t, .int .i64 u, .int .i64 v], .bool q]) (by simp [results, Tryz.f25, go_sem, d0, d1, d2]) rfl ?_
  rw [← HGP.out]
  obtain ⟨ht, hu, hv, hq⟩ := HO.out
  have s : ∀ (W : World) (i : Nat) (v : Value), Below w.heap.size w W → Below w.heap.size w (W.setCell ⟨w.heap.size + 1, i, none⟩ v) := fun W i v hb => hb.setCell (p := ⟨w.heap.size + 1, i, none⟩) (by simp only; omega) v
  exact ⟨by rw [ht, hu, hv, hq], s _ _ _ (s _ _ _ (s _ _ _ HBB.out))⟩
end

section
open Go.RowKit
set_option maxRecDepth 100000 in
set_option maxHeartbeats 4000000 in
theorem cErPartI (F G n k : Nat) (fs : List FkR) (f : FkR) (kp : Int) (w0 w : World) (h : FO w0 w F G n fs) (hf : fs[k]? = some f) (hw : 0 ≤ f.wear ∧ f.wear ≤ 100000) (hk : 0 ≤ kp ∧ kp ≤ 400) :
    Calls Tryz.prog 116 #[.pointer (some ⟨G, k * 18, none⟩), .int .i64 kp] w (FOA w0 w F G n (tornAt fs k kp)) := by
  have hcall := cEraseI F G n k fs f w0 w h hf hw
  obtain ⟨q, rfl⟩ : ∃ q : Nat, kp = (q : Int) := ⟨kp.toNat, by omega⟩
  obtain ⟨M, hM⟩ : ∃ M, min q 8 = M := ⟨_, rfl⟩
  have hM8 : M ≤ 8 := by omega
  have hMi : min (q : Int) 8 = (M : Int) := by omega
  have HT : Hid (tornAt fs k (q : Int) = fs.set k (fkT f M)) := by show _ = _; unfold tornAt; rw [hf]; simp only [Int.toNat_natCast]; rw [hM]
  have HE : Hid (erAt fs k = fs.set k (fkT f 0)) := by show _ = _; unfold erAt; rw [hf]; rfl
  have HK : Hid (fs[k]? = some f) := hf
  generalize hGP : FOA w0 w F G n (tornAt fs k (q : Int)) = P
  have HGP : Hid _ := hGP
  clear h hf hw hk hM hGP
  have hif : (if (8 : Int) < (q : Int) then (8 : Int) else (q : Int)) = (M : Int) := by split <;> omega
  have hif2 : (if (q : Int) < (8 : Int) then (q : Int) else (8 : Int)) = (M : Int) := by split <;> omega
  go_enter Tryz.func116, Tryz.ntmps116
  go_wp2_with fail
  refine hcall.mono ?_
  rintro e w1 ⟨rfl, hfo, hsv⟩
  rw [HE.out] at hfo
  have HFO : Hid _ := And.intro hfo hsv
  clear hfo hsv hcall
  go_wp2
  have hM8i : (M : Int) ≤ 8 := by omega
  go_loopw [9] (fun i wr => ∃ (j : Nat), j ≤ M ∧ i = .int .i64 j ∧ Hid (FO w0 wr F G n (fs.set k (fkT f j)) ∧ Sv [G] w wr)) (fun i _ => M - (intOf i).toNat)
  case atStart => exact ⟨0, Nat.zero_le _, rfl, HFO⟩
  case round =>
    obtain ⟨j, hj, rfl, hfo⟩ := hrel
    by_cases hjm : j < M
    · have hji : (j : Int) < (M : Int) := by omega
      have hj8 : (j : Int) < 8 := by omega
      have hkk : (fs.set k (fkT f j))[k]? = some (fkT f j) := get_set HK.out
      have fo := hfo.out.1
      obtain ⟨v0, p0⟩ := fo.is hkk (j := j * 2) (by omega)
      have r0 : wr.cell? ⟨G, k * 18 + j * 2, none⟩ = some v0 := p0
      have f0 := fo.g.frozen (k * 18 + j * 2)
      have hq : (fkT f j).ps[j]? = some pgZ := by show (pgsT j)[j]? = _; rw [pgsT_at (by omega), if_neg (by omega)]
      have fn := fo.one (j := j * 2) (x := .bool true) hkk (by omega) (en_pg (j2 := 0) (p := pgU) hq (by omega) rfl)
      rw [List.set_set, show (fkT f j).pg j pgU = fkT f (j + 1) from FkR.ext' (pgsT_succ (by omega)) rfl rfl] at fn
      have HN : Hid (FO w0 (wr.setCell ⟨G, k * 18 + j * 2, none⟩ (.bool true)) F G n (fs.set k (fkT f (j + 1))) ∧ Sv [G] w (wr.setCell ⟨G, k * 18 + j * 2, none⟩ (.bool true))) := ⟨fn, hfo.out.2.trans (sv_one _ _ _ _)⟩
      clear fo p0 fn hkk hq
      go_wp2
      go_roundw
      case rel => exact ⟨j + 1, by omega, by go_num, HN⟩
      case measure => simp [intOf]; omega
    · have hji : ¬ (j : Int) < (M : Int) := by omega
      obtain rfl : j = M := by omega
      go_wp2
      try go_end0
      rw [← HGP.out]
      exact ⟨rfl, by rw [HT.out]; exact hfo.out.1, hfo.out.2⟩
set_option maxHeartbeats 1600000 in
theorem erC1I (F G n k K : Nat) (fs : List FkR) (f : FkR) (w0 w : World) (h : FO w0 w F G n fs) (hf : fs[k]? = some f) (hw : 0 ≤ f.wear ∧ f.wear ≤ 100000) (hK : Blk w K 127 #[.pointer (some ⟨G, k * 18, none⟩)]) :
    Calls Tryz.prog 113 #[.pointer (some ⟨K, 0, none⟩)] w (FOA w0 w F G n (erAt fs k)) := by
  have hcall := cEraseI F G n k fs f w0 w h hf hw
  have x0 := hK.cell 0
  simp at x0
  generalize hGP : FOA w0 w F G n (erAt fs k) = P at hcall
  have HGP : Hid _ := hGP
  clear hGP h hf hw hK
  go_enter Tryz.func113, Tryz.ntmps113
  go_wp2_with fail
  refine hcall.mono ?_
  intro e w1 hA
  rw [← HGP.out] at hA
  obtain ⟨rfl, h1, h2⟩ := hA
  go_wp2
  try go_end0
  rw [← HGP.out]
  exact ⟨rfl, h1, h2⟩
set_option maxHeartbeats 1600000 in
theorem erC2I (F G n k K : Nat) (fs : List FkR) (f : FkR) (kp : Int) (w0 w : World) (h : FO w0 w F G n fs) (hf : fs[k]? = some f) (hw : 0 ≤ f.wear ∧ f.wear ≤ 100000) (hk : 0 ≤ kp ∧ kp ≤ 400) (hK : Blk w K 127 #[.pointer (some ⟨G, k * 18, none⟩)]) :
    Calls Tryz.prog 115 #[.int .i64 kp, .pointer (some ⟨K, 0, none⟩)] w (FOA w0 w F G n (tornAt fs k kp)) := by
  have hcall := cErPartI F G n k fs f kp w0 w h hf hw hk
  have x0 := hK.cell 0
  simp at x0
  generalize hGP : FOA w0 w F G n (tornAt fs k kp) = P at hcall
  have HGP : Hid _ := hGP
  clear hGP h hf hw hK hk
  go_enter Tryz.func115, Tryz.ntmps115
  go_wp2_with fail
  refine hcall.mono ?_
  intro e w1 hA
  rw [← HGP.out] at hA
  obtain ⟨rfl, h1, h2⟩ := hA
  go_wp2
  try go_end0
  rw [← HGP.out]
  exact ⟨rfl, h1, h2⟩
end

section
open Go.RowKit
set_option maxRecDepth 100000 in
set_option maxHeartbeats 8000000 in
theorem opErI (X F G n k K : Nat) (ks : List FkR) (f : FkR) (ops : Int) (fa : Option Addr) (m fc : Nat) (fs : List FtD) (down : Bool) (w0 w : World) (h : DO w0 w X F G n ks ops fa m fc down) (hfr : FR w fa m fs) (ho : 0 ≤ ops ∧ ops < 100000) (hfs : ∀ t ∈ fs, ftOk t = true) (hf : ks[k]? = some f) (hw : 0 ≤ f.wear ∧ f.wear ≤ 100000) (hK : Blk w K 127 #[.pointer (some ⟨G, k * 18, none⟩)]) (hKX : K ≠ X) :
    Calls Tryz.prog 99 #[.pointer (some ⟨X, 0, none⟩), .pointer (some ⟨G, k * 18, none⟩), .func (.func 113) #[] #[.pointer (some ⟨K, 0, none⟩)], .func (.func 115) #[] #[.pointer (some ⟨K, 0, none⟩)]] w (EvA w0 w X F G n 0 ks (erAt ks k) (badAt ks k) (tornAt ks k) (faD ops fs) ops fa m fc down) := by
  have hcall := beginI X F G n ks ops fa m fc fs down w0 w h hfr ho
  have C1 : Hid (∀ W : World, FO w0 W F G n ks → Blk W K 127 #[.pointer (some ⟨G, k * 18, none⟩)] → Calls Tryz.prog 113 #[.pointer (some ⟨K, 0, none⟩)] W (FOA w0 W F G n (erAt ks k))) := fun W h1 h2 => erC1I F G n k K ks f w0 W h1 hf hw h2
  have C2 : Hid (∀ (W : World) (kp : Int), 0 ≤ kp ∧ kp ≤ 400 → FO w0 W F G n ks → Blk W K 127 #[.pointer (some ⟨G, k * 18, none⟩)] → Calls Tryz.prog 115 (#[.int .i64 kp] ++ #[.pointer (some ⟨K, 0, none⟩)]) W (FOA w0 W F G n (tornAt ks k kp))) := fun W kp hkp h1 h2 => erC2I F G n k K ks f kp w0 W h1 hf hw hkp h2
  have hmem : ∀ t, faD ops fs = some t → 0 ≤ t.kp ∧ t.kp ≤ 400 := fun t ht => by
    have h1 := hfs t (List.mem_of_find?_eq_some ht)
    unfold ftOk at h1
    simp at h1
    omega
  obtain ⟨o, hoo⟩ : ∃ o, faD ops fs = o := ⟨_, rfl⟩
  rw [hoo] at hcall hmem ⊢
  have HKX : Hid _ := hKX
  have HK : Hid _ := hK
  have HF : Hid _ := hf
  have HDO : Hid _ := h
  have hXw := h.x.lt
  have hGw := h.fo.g.lt (g := G) rfl
  have HXG : Hid (X ≠ G) := h.xg
  clear hoo hfr hf hw hK h hfs ho
  cases o with
  | none =>
    simp only [Option.getD_none, Option.isSome_none, ftZ] at hcall
    generalize hGP : EvA w0 w X F G n 0 ks (erAt ks k) (badAt ks k) (tornAt ks k) none ops fa m fc down = P
    have HGP : Hid _ := hGP
    clear hGP hmem
    go_enter Tryz.func99, Tryz.ntmps99
    go_wp2_with fail
    refine hcall.mono ?_
    rintro e w1 ⟨rfl, do1, sv1⟩
    have b2 : Below w1.heap.size w1 (w1.alloc (.cells #[.int .i64 0, .int .i64 0, .int .i64 0] 51)) := (Below.refl _ _).alloc (Nat.le_refl _) _
    have do2 := do1.keep b2
    have k2 := (Blk.svs HK.out sv1 (by simp; exact HKX.out)).keep b2

    have hc2 := C1.out _ do2.fo k2
    have sv2 : Sv [X, G] w (w1.alloc (.cells #[.int .i64 0, .int .i64 0, .int .i64 0] 51)) := (sv1.wider (by simp)).trans (Below.sv b2 _)
    clear hcall do1 sv1 b2
    go_wp2_with fail
    refine hc2.mono ?_
    rintro e w3 ⟨rfl, fo3, sv3⟩
    have HN : Hid _ := And.intro (do2.row fo3 sv3) (sv2.trans (sv3.wider (by simp)))
    clear do2 fo3 sv3 sv2 hc2
    go_wp2
    rw [← HGP.out]
    exact ⟨rfl, HN.out.1, HN.out.2⟩
  | some t =>
    obtain ⟨ft, fk, fp⟩ := t
    simp only [Option.getD_some, Option.isSome_some] at hcall
    have hkp := hmem _ rfl
    dsimp only at hkp
    by_cases h1 : fk = 1
    · subst h1
      generalize hGP : EvA w0 w X F G n 0 ks (erAt ks k) (badAt ks k) (tornAt ks k) (some ⟨ft, 1, fp⟩) ops fa m fc down = P
      have HGP : Hid _ := hGP
      clear hGP hmem
      go_enter Tryz.func99, Tryz.ntmps99
      go_wp2_with fail
      refine hcall.mono ?_
      rintro e w1 ⟨rfl, do1, sv1⟩
      have b2 : Below w1.heap.size w1 (w1.alloc (.cells #[.int .i64 ft, .int .i64 1, .int .i64 fp] 51)) := (Below.refl _ _).alloc (Nat.le_refl _) _
      have do2 := do1.keep b2
      have sv2 : Sv [X, G] w (w1.alloc (.cells #[.int .i64 ft, .int .i64 1, .int .i64 fp] 51)) := (sv1.wider (by simp)).trans (Below.sv b2 _)
      obtain ⟨v0, p0⟩ := do2.fo.is HF.out (j := 17) (by omega)
      have g0 := do2.fo.g.frozen (k * 18 + 17)
      have fn := do2.fo.one (j := 17) (x := .bool true) HF.out (by omega) (en_bad f true)
      have hbk : badAt ks k = ks.set k (f.badTo true) := by unfold badAt; rw [HF.out]
      rw [← hbk] at fn
      have HN : Hid _ := And.intro (do2.row fn (sv_one _ _ _ _)) (sv2.trans ((sv_one _ G (k * 18 + 17) (.bool true)).wider (by simp)))
      clear do1 sv1 b2 do2 sv2 fn hbk hcall
      go_wp2
      rw [← HGP.out]
      exact ⟨rfl, HN.out.1, HN.out.2⟩
    · have h1b : (fk == 1) = false := by simpa using h1
      generalize hGP : EvA w0 w X F G n 0 ks (erAt ks k) (badAt ks k) (tornAt ks k) (some ⟨ft, fk, fp⟩) ops fa m fc down = P
      have HGP : Hid _ := hGP
      have H1 : Hid _ := h1
      clear hGP hmem h1
      go_enter Tryz.func99, Tryz.ntmps99
      go_wp2_with fail
      refine hcall.mono ?_
      rintro e w1 ⟨rfl, do1, sv1⟩
      have b2 : Below w1.heap.size w1 (w1.alloc (.cells #[.int .i64 ft, .int .i64 fk, .int .i64 fp] 51)) := (Below.refl _ _).alloc (Nat.le_refl _) _
      have do2 := do1.keep b2
      have k2 := (Blk.svs HK.out sv1 (by simp; exact HKX.out)).keep b2

      have hc2 := C2.out _ fp hkp do2.fo k2
      have sv2 : Sv [X, G] w (w1.alloc (.cells #[.int .i64 ft, .int .i64 fk, .int .i64 fp] 51)) := (sv1.wider (by simp)).trans (Below.sv b2 _)
      clear hcall do1 sv1 b2
      go_wp2_with fail
      refine hc2.mono ?_
      rintro e w3 ⟨rfl, fo3, sv3⟩
      have HN : Hid _ := And.intro (do2.row fo3 sv3) (sv2.trans (sv3.wider (by simp)))
      clear do2 fo3 sv3 sv2 hc2
      go_wp2
      rw [← HGP.out]
      have h1 := H1.out
      have e1 : evEnd 0 (some ⟨ft, fk, fp⟩) = .panicked [{ v := .iface 149 (.int .i64 10), recovered := false }] := by
        unfold evEnd opEnd
        rw [if_pos rfl]
        dsimp only
        rw [if_neg h1]
      have e2 : opK (erAt ks k) (badAt ks k) (tornAt ks k) (some ⟨ft, fk, fp⟩) = tornAt ks k fp := by
        unfold opK
        dsimp only
        rw [if_neg h1]
      refine ⟨rfl, e1.symm, ?_, HN.out.2⟩
      rw [if_pos rfl, if_pos rfl, e2]
      exact HN.out.1
set_option maxRecDepth 100000 in
set_option maxHeartbeats 8000000 in
theorem dvErI (X F G n : Nat) (ks : List FkR) (x : Int) (ops : Int) (fa : Option Addr) (m fc : Nat) (fs : List FtD) (down : Bool) (w0 w : World) (hn : n ≤ 1048576) (h : DO w0 w X F G n ks ops fa m fc down) (hfr : FR w fa m fs) (ho : 0 ≤ ops ∧ ops < 100000) (hfs : ∀ t ∈ fs, ftOk t = true) (hw : ∀ f ∈ ks, 0 ≤ f.wear ∧ f.wear ≤ 100000) :
    Calls Tryz.prog 60 #[.pointer (some ⟨X, 0, none⟩), .int .i64 x] w (EvA w0 w X F G n (erC ks x) ks (erAt ks x.toNat) (badAt ks x.toNat) (tornAt ks x.toNat) (faD ops fs) ops fa m fc down) := by
  have hcall := bteI F G n ks x w0 w hn h.fo
  have x0 := h.x.cell 0
  simp at x0
  have hXw := h.x.lt
  by_cases hc : erC ks x = 0
  · obtain ⟨k, f, rfl, hf⟩ := btc_zero (fs := ks) (x := x) (by unfold erC at hc; split at hc <;> assumption)
    rw [if_pos hc, hc, errV_zero, Int.toNat_natCast] at hcall
    rw [hc, Int.toNat_natCast]
    have b1 : Below w.heap.size w (w.alloc (.cells #[.pointer (some ⟨G, k * 18, none⟩)] 127)) := (Below.refl _ _).alloc (Nat.le_refl _) _
    have zK := Blk.new w 127 #[.pointer (some ⟨G, k * 18, none⟩)]
    have hcall2 := opErI X F G n k w.heap.size ks f ops fa m fc fs down w0 _ (h.keep b1) (hfr.keep b1) ho hfs hf (hw f (List.mem_of_getElem? hf)) zK (by omega)
    generalize hGP : EvA w0 w X F G n 0 ks (erAt ks k) (badAt ks k) (tornAt ks k) (faD ops fs) ops fa m fc down = P
    have HGP : Hid _ := hGP
    have HB1 : Hid _ := b1
    obtain ⟨H, hH⟩ : ∃ H, w.heap.size = H := ⟨_, rfl⟩
    rw [hH] at hcall2
    have hmf : ∀ (fn : Fn) (first cap : Array Value) (w : World), (Instr.makeFunc fn first cap).run Tryz.prog w = .ok (.func fn first cap) w := fun _ _ _ _ => rfl
    clear hc hf hfr hfs hw h b1 zK hGP
    go_enter Tryz.func60, Tryz.ntmps60
    go_wp2_with fail
    refine hcall.mono ?_
    rintro e w1 ⟨rfl, hw1⟩
    obtain rfl := hw1.symm
    go_wp2_with fail
    refine hcall2.mono ?_
    rintro e w2 ⟨he, d2, sv2⟩
    have HA : Hid (EvA w0 w X F G n 0 ks (erAt ks k) (badAt ks k) (tornAt ks k) (faD ops fs) ops fa m fc down e w2) := ⟨he, d2, (Below.sv HB1.out _).trans sv2⟩
    have HA2 : Hid (P e w2) := by show P e w2; rw [← HGP.out]; exact HA.out
    clear d2 sv2 hcall hcall2 hXw HGP HA
    rcases evEnd_cases 0 (faD ops fs) with ⟨v, e1, (rfl | ⟨c, rfl⟩)⟩ | e1
    · rw [e1] at he
      subst he
      go_wp2
      exact HA2.out
    · rw [e1] at he
      subst he
      go_wp2
      exact HA2.out
    · rw [e1] at he
      subst he
      go_wp2
      first | exact HA2.out | exact ⟨rfl, HA2.out⟩
  · rw [if_neg hc, errV_some hc] at hcall
    generalize hGP : EvA w0 w X F G n (erC ks x) ks (erAt ks x.toNat) (badAt ks x.toNat) (tornAt ks x.toNat) (faD ops fs) ops fa m fc down = P
    have HGP : Hid _ := hGP
    have b1 : Below w.heap.size w (w.alloc (.cells #[.pointer none] 127)) := (Below.refl _ _).alloc (Nat.le_refl _) _
    have HN : Hid _ := And.intro (h.keep b1) (Below.sv b1 [X, G])
    have HC : Hid _ := hc
    obtain ⟨c, hcc⟩ : ∃ c, erC ks x = c := ⟨_, rfl⟩
    have HCC : Hid _ := hcc
    rw [hcc] at hcall
    clear hGP h hfr hfs hw b1 hc hcc
    go_enter Tryz.func60, Tryz.ntmps60
    go_wp2_with fail
    refine hcall.mono ?_
    rintro e w1 ⟨rfl, hw1⟩
    obtain rfl := hw1.symm
    go_wp2
    rw [← HGP.out]
    have h1 := HC.out
    refine ⟨?_, ?_, HN.out.2⟩
    · unfold evEnd
      rw [if_neg h1, errV_some h1, HCC.out]
      rfl
    · rw [if_neg h1, if_neg h1]
      exact HN.out.1
set_option maxRecDepth 100000 in
set_option maxHeartbeats 4000000 in
theorem ev_through {X F G n B : Nat} {ks kA kB : List FkR} {kC : Int → List FkR} {x cd : Int} {o : Option FtD} {ops : Int} {fa : Option Addr} {m fc : Nat} {down : Bool} {w0 w : World} (x0 : w.cell? ⟨B, 0, none⟩ = some (.int .i64 x)) (hcall : Calls Tryz.prog 60 #[.pointer (some ⟨X, 0, none⟩), .int .i64 x] w (EvA w0 w X F G n cd ks kA kB kC o ops fa m fc down)) :
    Calls Tryz.prog 59 #[.pointer (some ⟨X, 0, none⟩), .pointer (some ⟨B, 0, none⟩)] w (EvA w0 w X F G n cd ks kA kB kC o ops fa m fc down) := by
  generalize hGP : EvA w0 w X F G n cd ks kA kB kC o ops fa m fc down = P at hcall ⊢
  have HGP : Hid _ := hGP
  clear hGP
  go_enter Tryz.func59, Tryz.ntmps59
  go_wp2_with fail
  refine hcall.mono ?_
  intro e w1 hA
  have HA : Hid _ := hA
  rw [← HGP.out] at hA
  obtain ⟨he, _, _⟩ := hA
  clear HGP hcall
  rcases evEnd_cases cd o with ⟨v, e1, (rfl | ⟨c, rfl⟩)⟩ | e1
  · rw [e1] at he
    subst he
    go_wp2
    exact HA.out
  · rw [e1] at he
    subst he
    go_wp2
    exact HA.out
  · rw [e1] at he
    subst he
    go_wp2
    first | exact HA.out | exact ⟨rfl, HA.out⟩
set_option maxRecDepth 100000 in
set_option maxHeartbeats 4000000 in
theorem dvEr1I (X F G n B : Nat) (ks : List FkR) (x : Int) (ops : Int) (fa : Option Addr) (m fc : Nat) (fs : List FtD) (down : Bool) (w0 w : World) (hn : n ≤ 1048576) (h : DO w0 w X F G n ks ops fa m fc down) (hfr : FR w fa m fs) (ho : 0 ≤ ops ∧ ops < 100000) (hfs : ∀ t ∈ fs, ftOk t = true) (hw : ∀ f ∈ ks, 0 ≤ f.wear ∧ f.wear ≤ 100000) (hB : Blk w B 3 #[.int .i64 x]) :
    Calls Tryz.prog 59 #[.pointer (some ⟨X, 0, none⟩), .pointer (some ⟨B, 0, none⟩)] w (EvA w0 w X F G n (erC ks x) ks (erAt ks x.toNat) (badAt ks x.toNat) (tornAt ks x.toNat) (faD ops fs) ops fa m fc down) := by
  have hcall := dvErI X F G n ks x ops fa m fc fs down w0 w hn h hfr ho hfs hw
  have x0 := hB.cell 0
  simp at x0
  generalize erC ks x = cd at hcall ⊢
  generalize erAt ks x.toNat = kA at hcall ⊢
  generalize badAt ks x.toNat = kB at hcall ⊢
  generalize tornAt ks x.toNat = kC at hcall ⊢
  exact ev_through x0 hcall
end

section
open Go.RowKit
theorem FlGood.er {w : World} {ks : List FkR} (k : Nat) (h : FlGood w ks) : FlGood w (erAt ks k) := by
  unfold erAt
  split
  · rename_i f hf
    refine h.set hf (fun p hp => ?_) ?_
    · have : p ∈ List.replicate 8 pgZ := hp
      rw [List.mem_replicate] at this
      rw [this.2]
      exact .inl rfl
    · have := totP_eight f
      have h8 : totP ((List.replicate 8 pgZ).map PgR.D) = 8 := rfl
      show totP ((List.replicate 8 pgZ).map PgR.D) ≤ _
      omega
  · exact h
theorem erAt_D (ks : List FkR) (k : Nat) : (erAt ks k).map FkR.D = eraseAt (ks.map FkR.D) k := by
  unfold erAt eraseAt
  rw [List.getElem?_map]
  cases hk : ks[k]? with
  | none => rfl
  | some f => simp only [Option.map_some]; rw [List.map_set]; rfl
theorem tornAt_D (ks : List FkR) (k : Nat) (kp : Int) : (tornAt ks k kp).map FkR.D = tornD (ks.map FkR.D) k kp := by
  unfold tornAt tornD
  rw [List.getElem?_map]
  cases hk : ks[k]? with
  | none => rfl
  | some f =>
    simp only [Option.map_some]
    rw [List.map_set]
    congr 1
    show (⟨(pgsT (min kp.toNat 8)).map PgR.D, f.wear + 1, f.bad⟩ : BkD) = _
    rw [pgsT_D]
    rfl
end

section
open Go.RowKit
set_option maxRecDepth 100000 in
set_option maxHeartbeats 4000000 in
theorem devNewI (x : Int) (fa : Option Addr) (m fc : Nat) (fs : List FtD) (w : World) (hf : FR w fa m fs) :
    Calls Tryz.prog 24 #[.int .i64 x, .slice fa m fc] w (DvA w (devN x fs)) := by
  have B0 : Below w.heap.size w (w.alloc (.cells #[.slice none 0 0, .int .i64 0, .slice none 0 0, .bool false] 29)) := (Below.refl _ w).alloc (Nat.le_refl _) _
  have z0 := Blk.new w 29 #[.slice none 0 0, .int .i64 0, .slice none 0 0, .bool false]
  have HF : Hid _ := hf.keep B0
  have HB : Hid _ := B0
  generalize hGP : DvA w (devN x fs) = P
  have HGP : Hid _ := hGP
  clear hf B0 hGP
  obtain ⟨H, hH⟩ : ∃ H, w.heap.size = H := ⟨_, rfl⟩
  have HH : Hid _ := hH
  rw [hH] at z0
  go_enter Tryz.func24, Tryz.ntmps24
  go_wp2_with fail
  obtain ⟨W0, hW0⟩ : ∃ W, w.alloc (.cells #[.slice none 0 0, .int .i64 0, .slice none 0 0, .bool false] 29) = W := ⟨_, rfl⟩
  rw [hW0] at HF HB z0 ⊢
  try rw [hH]
  clear hW0 hH
  refine (chipNewI x W0).mono ?_
  rintro e w1 ⟨a1, n1, c1, qs, rfl, hq, hql, hb1⟩
  have b2 : Below w1.heap.size w1 (w1.alloc (.cells #[.slice a1 n1 c1, .int .i64 0, .slice fa m fc, .bool false] 29)) := (Below.refl _ w1).alloc (Nat.le_refl _) _
  have zd := Blk.new w1 29 #[.slice a1 n1 c1, .int .i64 0, .slice fa m fc, .bool false]
  go_upto_region 2 with fail
  obtain ⟨W2, hW2⟩ : ∃ W, w1.alloc (.cells #[.slice a1 n1 c1, .int .i64 0, .slice fa m fc, .bool false] 29) = W := ⟨_, rfl⟩
  rw [hW2] at b2 zd ⊢
  clear hW2
  have hXl := z0.lt
  have hX0 := hb1.size
  obtain ⟨X, hX⟩ : ∃ X, w1.heap.size = X := ⟨_, rfl⟩
  have hql2 : Hid (∀ g ∈ fpBs (.slice a1 n1 c1) qs, g < X) := fun g hg => by rw [← hX]; exact hq.own.lt g hg
  rw [hX] at zd hX0
  try rw [hX]
  have b02 := hb1.trans (b2.mono hb1.size)
  have z2 := z0.keep b02
  have q2 := hq.keep b2
  have F2 := HF.out.keep b02
  clear hb1 b2 hq HF hX z0
  have hcall := devOkI a1 n1 c1 qs 0 fa m fc fs false W2 (q2.cr hql (newD_tot x)) F2
  rw [q2.D] at hcall
  have y0 := zd.cell 0
  have y1 := zd.cell 1
  have y2 := zd.cell 2
  have y3 := zd.cell 3
  simp at y0 y1 y2 y3
  go_wp2_with fail
  refine hcall.mono ?_
  rintro e w3 ⟨rfl, b3⟩
  clear hcall y0 y1 y2 y3
  have b03 := b02.trans (b3.mono b02.size)
  have zr := z2.keep b3
  have zx := zd.keep b3
  have q3 := q2.keep b3
  have F3 := F2.keep b3
  clear z2 zd q2 F2 b02 b3
  cases hd : devB (newD x) 0 fs with
  | false =>
    have HD : Hid (devN x fs = ⟨[], 0, [], false⟩) := by show _ = _; unfold devN; rw [hd]; rfl
    have r0 := zr.cell 0
    have r1 := zr.cell 1
    have r2 := zr.cell 2
    have r3 := zr.cell 3
    have g0 := zr.frozen 0
    have g1 := zr.frozen 1
    have g2 := zr.frozen 2
    have g3 := zr.frozen 3
    have zf := (((zr.set 0 (.slice none 0 0)).set 1 (.int .i64 0)).set 2 (.slice none 0 0)).set 3 (.bool false)
    have d0 := zf.cell 0
    have d1 := zf.cell 1
    have d2 := zf.cell 2
    have d3 := zf.cell 3
    simp at r0 r1 r2 r3 d0 d1 d2 d3
    have HBB : Hid (Below w.heap.size w w3) := HB.out.trans (b03.mono HB.out.size)
    clear zr zf zx q3 F3 b03 hd
    go_wp2
    refine bodyPost_ret (v := .agg #[.slice none 0 0, .int .i64 0, .slice none 0 0, .bool false]) (by simp [results, Tryz.f24, go_sem, d0, d1, d2, d3]) rfl ?_
    rw [← HGP.out, HD.out]
    have hH := HH.out
    have s : ∀ (W : World) (i : Nat) (v : Value), Below w.heap.size w W → Below w.heap.size w (W.setCell ⟨H, i, none⟩ v) := fun W i v hb => hb.setCell (p := ⟨H, i, none⟩) (by simp only; omega) v
    exact ⟨none, 0, 0, none, 0, 0, [], rfl, newDv_zero _ _, rfl, s _ _ _ (s _ _ _ (s _ _ _ (s _ _ _ HBB.out)))⟩
  | true =>
    have HD : Hid (devN x fs = ⟨newD x, 0, fs, false⟩) := by show _ = _; unfold devN; rw [hd]; rfl
    have hcall := copyFaultsI fa m fc fs w3 F3
    clear F3 hd
    go_wp2_with fail
    refine hcall.mono ?_
    rintro e w4 ⟨fa1, fc1, rfl, hfo, hfn, b4⟩
    clear hcall
    have hx3 := zx.lt
    have zr4 := zr.keep b4
    have zx4 := zx.keep b4
    have c2 := zx4.cell 2
    have f2 := zx4.frozen 2
    have zx5 := zx4.set 2 (.slice fa1 m fc1)
    have y0 := zx5.cell 0
    have y1 := zx5.cell 1
    have y2 := zx5.cell 2
    have y3 := zx5.cell 3
    have zr5 := zr4.other (B' := X) (by omega) 2 (.slice fa1 m fc1)
    have r0 := zr5.cell 0
    have r1 := zr5.cell 1
    have r2 := zr5.cell 2
    have r3 := zr5.cell 3
    have g0 := zr5.frozen 0
    have g1 := zr5.frozen 1
    have g2 := zr5.frozen 2
    have g3 := zr5.frozen 3
    have zf := (((zr5.set 0 (.slice a1 n1 c1)).set 1 (.int .i64 0)).set 2 (.slice fa1 m fc1)).set 3 (.bool false)
    have d0 := zf.cell 0
    have d1 := zf.cell 1
    have d2 := zf.cell 2
    have d3 := zf.cell 3
    simp at c2 y0 y1 y2 y3 r0 r1 r2 r3 d0 d1 d2 d3
    have b04 := b03.trans (b4.mono b03.size)
    have hnd : NewDv w4 W0.heap.size a1 n1 c1 fa1 m fc1 (newD x) fs qs := ⟨q3.keep b4, hfo, fun g hg => ⟨by have := hfn g hg; have := b03.size; omega, fun h => by have := q3.own.lt g h; have := hfn g hg; omega⟩⟩
    have hnd5 : NewDv (w4.setCell ⟨X, 2, none⟩ (.slice fa1 m fc1)) W0.heap.size a1 n1 c1 fa1 m fc1 (newD x) fs qs := hnd.svs (F := [X]) (Sv.gr (gr_setC _ X 2 _) (fun g hg => by simp at hg; simp [hg])) (fun g hg hf => by
      simp at hf
      subst hf
      rcases List.mem_append.1 hg with h | h
      · have := hql2.out _ h; omega
      · have := hfn g (by simpa using h); omega)
    have HN : Hid (NewDv (w4.setCell ⟨X, 2, none⟩ (.slice fa1 m fc1)) W0.heap.size a1 n1 c1 fa1 m fc1 (newD x) fs qs ∧ qs.length = n1 ∧ H < W0.heap.size ∧ Below w.heap.size w (w4.setCell ⟨X, 2, none⟩ (.slice fa1 m fc1))) := ⟨hnd5, hql, hXl, (HB.out.trans (b04.mono HB.out.size)).setCell (p := ⟨X, 2, none⟩) (by have := HH.out; simp only; omega) _⟩
    clear hnd hnd5 hfo hfn b4 b04 b03 q3 zr zx zr4 zx4 zx5 zr5 zf hql hql2
    go_wp2
    refine bodyPost_ret (v := .agg #[.slice a1 n1 c1, .int .i64 0, .slice fa1 m fc1, .bool false]) (by simp [results, Tryz.f24, go_sem, d0, d1, d2, d3]) rfl ?_
    rw [← HGP.out, HD.out]
    obtain ⟨hnd, hl, h1, hb⟩ := HN.out
    have hH := HH.out
    have s : ∀ (W : World) (i : Nat) (v : Value), Below w.heap.size w W → Below w.heap.size w (W.setCell ⟨H, i, none⟩ v) := fun W i v hb => hb.setCell (p := ⟨H, i, none⟩) (by simp only; omega) v
    exact ⟨a1, n1, c1, fa1, m, fc1, qs, rfl, ((((hnd.set_below h1).set_below h1).set_below h1).set_below h1).wider (by omega), hl, s _ _ _ (s _ _ _ (s _ _ _ (s _ _ _ hb)))⟩
end

section
open Go.RowKit
theorem devN_ok (x : Int) (fs : List FtD) : devB (devN x fs).ds (devN x fs).ops (devN x fs).fs = decide (0 < (devN x fs).ds.length) := by
  unfold devN
  split
  · rename_i h
    have h1 := (devB_parts.1 h).1.1
    rw [h]
    simp
    omega
  · have : ¬ ChOk [] := fun h => by have := h.1; simp at this
    have h2 : devB [] 0 [] = false := by
      cases hq : devB [] 0 [] with
      | false => rfl
      | true => exact absurd (devB_parts.1 hq).1 this
    rw [h2]
    simp
theorem devN_tot (x : Int) (fs : List FtD) : totB (devN x fs).ds ≤ 1048576 := by
  unfold devN
  split
  · exact newD_tot x
  · simp [totB]
theorem devN_fs (x : Int) (fs : List FtD) : (devN x fs).fs.length ≤ fs.length := by
  unfold devN
  split
  · exact Nat.le_refl _
  · exact Nat.zero_le _
/-- The code where the device is off. -/
theorem off_code (ds : List BkD) (ops : Int) (fs : List FtD) (c : Int) : outCode (evCode ds ops fs true c) (faD ops fs) = if devB ds ops fs = true then 10 else 1 := by
  have h : evCode ds ops fs true c = if devB ds ops fs = true then 10 else 1 := by
    unfold evCode
    cases devB ds ops fs <;> simp
  rw [h]
  unfold outCode
  cases devB ds ops fs <;> simp
end

section
open Go.RowKit
set_option maxRecDepth 100000 in
set_option maxHeartbeats 16000000 in
theorem behE (a : Option Addr) (n cap B : Nat) (bs : List BkR) (ops : Int) (fa : Option Addr) (m fc : Nat) (fs : List FtD) (down : Bool) (x : Int) (w : World) (ht : CR w a n bs) (hf : FR w fa m fs) (hB : Blk w B 3 #[.int .i64 x]) (hE : EtCell w) :
    Calls Tryz.prog 48 #[.agg #[.slice a n cap, .int .i64 ops, .slice fa m fc, .bool down], .func (.func 59) #[] #[.pointer (some ⟨B, 0, none⟩)]] w (DvCA w ⟨outDs (evCode (bs.map BkR.D) ops fs down (codeE true (bs.map BkR.D) x)) (faD ops fs) (bs.map BkR.D) (eraseAt (bs.map BkR.D) x.toNat) (badD (bs.map BkR.D) x.toNat) (tornD (bs.map BkR.D) x.toNat), outOps (evCode (bs.map BkR.D) ops fs down (codeE true (bs.map BkR.D) x)) ops, fs, outDown (evCode (bs.map BkR.D) ops fs down (codeE true (bs.map BkR.D) x)) (faD ops fs) down⟩ (outCode (evCode (bs.map BkR.D) ops fs down (codeE true (bs.map BkR.D) x)) (faD ops fs))) := by
  have hnn := ht.n
  have B0 : Below w.heap.size w (((w.alloc (.cells #[.slice a n cap, .int .i64 ops, .slice fa m fc, .bool down] 29)).alloc (.cells #[.slice none 0 0, .int .i64 0, .slice none 0 0, .bool false] 29)).alloc (.cells #[.int .i64 0] 3)) := (((Below.refl _ w).alloc (Nat.le_refl _) _).alloc (by simp) _).alloc (by simp; omega) _
  have z0 := ((Blk.new w 29 #[.slice a n cap, .int .i64 ops, .slice fa m fc, .bool down]).alloc (.cells #[.slice none 0 0, .int .i64 0, .slice none 0 0, .bool false] 29)).alloc (.cells #[.int .i64 0] 3)
  have z1 := (Blk.new (w.alloc (.cells #[.slice a n cap, .int .i64 ops, .slice fa m fc, .bool down] 29)) 29 #[.slice none 0 0, .int .i64 0, .slice none 0 0, .bool false]).alloc (.cells #[.int .i64 0] 3)
  have z5 := Blk.new ((w.alloc (.cells #[.slice a n cap, .int .i64 ops, .slice fa m fc, .bool down] 29)).alloc (.cells #[.slice none 0 0, .int .i64 0, .slice none 0 0, .bool false] 29)) 3 #[.int .i64 0]
  simp only [World.size_alloc] at z1 z5
  have hws : (((w.alloc (.cells #[.slice a n cap, .int .i64 ops, .slice fa m fc, .bool down] 29)).alloc (.cells #[.slice none 0 0, .int .i64 0, .slice none 0 0, .bool false] 29)).alloc (.cells #[.int .i64 0] 3)).heap.size = w.heap.size + 1 + 1 + 1 := by simp
  obtain ⟨H, hH⟩ : ∃ H, w.heap.size = H := ⟨_, rfl⟩
  have HH : Hid (w.heap.size = H) := hH
  rw [hH] at z0 z1 z5 hws
  obtain ⟨CD, hCD⟩ : ∃ c, evCode (bs.map BkR.D) ops fs down (codeE true (bs.map BkR.D) x) = c := ⟨_, rfl⟩
  rw [hCD]
  have HCD0 : Hid _ := hCD
  generalize hGP : DvCA w ⟨outDs CD (faD ops fs) (bs.map BkR.D) (eraseAt (bs.map BkR.D) x.toNat) (badD (bs.map BkR.D) x.toNat) (tornD (bs.map BkR.D) x.toNat), outOps CD ops, fs, outDown CD (faD ops fs) down⟩ (outCode CD (faD ops fs)) = P
  have HGP : Hid _ := hGP
  have hok := fun (W : World) (h1 : CR W a n bs) (h2 : FR W fa m fs) => devOkI a n cap bs ops fa m fc fs down W h1 h2
  obtain ⟨ok, hokk⟩ : ∃ ok, devB (bs.map BkR.D) ops fs = ok := ⟨_, rfl⟩
  rw [hokk] at hok
  have HOK : Hid _ := hokk
  have COK : Hid _ := hok
  have hmf : ∀ (fn : Fn) (first cap : Array Value) (w : World), (Instr.makeFunc fn first cap).run Tryz.prog w = .ok (.func fn first cap) w := fun _ _ _ _ => rfl
  clear hGP hCD hokk hok
  go_enter_defers Tryz.func48, Tryz.ntmps48
  go_upto_region 1 with fail
  obtain ⟨W0, hW0⟩ : ∃ W, ((w.alloc (.cells #[.slice a n cap, .int .i64 ops, .slice fa m fc, .bool down] 29)).alloc (.cells #[.slice none 0 0, .int .i64 0, .slice none 0 0, .bool false] 29)).alloc (.cells #[.int .i64 0] 3) = W := ⟨_, rfl⟩
  rw [hW0] at B0 z0 z1 z5 hws ⊢
  try rw [hH]
  clear hW0 hH
  have HW : Hid _ := hws
  have HT : Hid (CR W0 a n bs) := ht.keep B0
  have HF : Hid (FR W0 fa m fs) := hf.keep B0
  have HB0 : Hid (Below w.heap.size w W0) := B0
  have HZ0 : Hid (Blk W0 H 29 #[.slice a n cap, .int .i64 ops, .slice fa m fc, .bool down]) := z0
  have HZ1 : Hid (Blk W0 (H + 1) 29 #[.slice none 0 0, .int .i64 0, .slice none 0 0, .bool false]) := z1
  have HZ5 : Hid (Blk W0 (H + 1 + 1) 3 #[.int .i64 0]) := z5
  have HBB : Hid _ := hB.keep B0
  have HE : Hid (EtCell W0) := hE.keep B0
  have x0 := z0.cell 0
  have x1 := z0.cell 1
  have x2 := z0.cell 2
  have x3 := z0.cell 3
  simp at x0 x1 x2 x3
  clear ht hf B0 z0 z1 z5 hB hE
  go_wp2_with fail
  refine (COK.out W0 HT.out HF.out).mono ?_
  rintro e w1 ⟨rfl, b1⟩
  have y0 := (Blk.keep HZ0.out b1).cell 0
  have y1 := (Blk.keep HZ0.out b1).cell 1
  have y2 := (Blk.keep HZ0.out b1).cell 2
  have y3 := (Blk.keep HZ0.out b1).cell 3
  simp at y0 y1 y2 y3
  clear x0 x1 x2 x3
  cases ok with
  | false =>
    have HCD : Hid (CD = 1) := by show _ = _; rw [← HCD0.out]; unfold evCode; rw [if_pos HOK.out]
    go_wp2_with fail
    refine (copyDevI a n cap bs ops fa m fc fs down w1 (HT.out.keep b1) (HF.out.keep b1)).mono ?_
    rintro e w2 ⟨aC, nC, cC, fC, mC, kC, tC, rfl, qC, hlC, b2⟩
    dsimp only at qC ⊢
    have B2 : Below W0.heap.size W0 w2 := b1.trans (b2.mono b1.size)
    have zr := Blk.keep HZ1.out B2
    have z5 := Blk.keep HZ5.out B2
    have r0 := zr.cell 0
    have r1 := zr.cell 1
    have r2 := zr.cell 2
    have r3 := zr.cell 3
    have f0 := zr.frozen 0
    have f1 := zr.frozen 1
    have f2 := zr.frozen 2
    have f3 := zr.frozen 3
    have zf := (((zr.set 0 (.slice aC nC cC)).set 1 (.int .i64 ops)).set 2 (.slice fC mC kC)).set 3 (.bool down)
    have t5 := (((z5.other (B' := H + 1) (by omega) 0 (.slice aC nC cC)).other (B' := H + 1) (by omega) 1 (.int .i64 ops)).other (B' := H + 1) (by omega) 2 (.slice fC mC kC)).other (B' := H + 1) (by omega) 3 (.bool down)
    have k0 := t5.cell 0
    have kf := t5.frozen 0
    have zf4 := zf.other (B' := H + 1 + 1) (by omega) 0 (.int .i64 1)
    have zf5 := t5.set 0 (.int .i64 1)
    have d0 := zf4.cell 0
    have d1 := zf4.cell 1
    have d2 := zf4.cell 2
    have d3 := zf4.cell 3
    have d4 := zf5.cell 0
    simp at r0 r1 r2 r3 k0 d0 d1 d2 d3 d4
    have HQ : Hid _ := And.intro qC (And.intro hlC B2)
    have HB1 : Hid (W0.heap.size ≤ w1.heap.size) := b1.size
    clear qC b1 b2 B2 zr zf hlC z5 t5 zf4 zf5 y0 y1 y2 y3
    go_wp2
    refine ⟨.tuple #[.agg #[.slice aC nC cC, .int .i64 ops, .slice fC mC kC, .bool down], .int .i64 1], by simp [results, Tryz.f48, go_sem, d0, d1, d2, d3, d4], ?_⟩
    rw [← HGP.out]
    have hcd := HCD.out
    have hw := HW.out
    have hH := HH.out
    obtain ⟨q, hl, B2⟩ := HQ.out
    have hb1 := HB1.out
    have bel : Below w.heap.size w w2 := HB0.out.trans (B2.mono HB0.out.size)
    rw [outs_no hcd (by decide)]
    have k : ∀ (W : World) (j i : Nat) (v : Value), j < w1.heap.size → NewDv W w1.heap.size aC nC cC fC mC kC (bs.map BkR.D) fs tC → NewDv (W.setCell ⟨j, i, none⟩ v) w1.heap.size aC nC cC fC mC kC (bs.map BkR.D) fs tC := fun W j i v hj h => h.set_below hj
    have s : ∀ (W : World) (j i : Nat) (v : Value), w.heap.size ≤ j → Below w.heap.size w W → Below w.heap.size w (W.setCell ⟨j, i, none⟩ v) := fun W j i v hj hb => hb.setCell (p := ⟨j, i, none⟩) hj v
    exact ⟨aC, nC, cC, fC, mC, kC, tC, rfl, (k _ _ _ _ (by omega) (k _ _ _ _ (by omega) (k _ _ _ _ (by omega) (k _ _ _ _ (by omega) (k _ _ _ _ (by omega) q))))).wider (by omega), hl, s _ _ _ _ (by omega) (s _ _ _ _ (by omega) (s _ _ _ _ (by omega) (s _ _ _ _ (by omega) (s _ _ _ _ (by omega) bel))))⟩
  | true =>
    have hdv := HOK.out
    unfold devB at hdv
    simp only [Bool.and_eq_true, decide_eq_true_eq] at hdv
    obtain ⟨⟨hck, hop0, hop1⟩, hfB⟩ := hdv
    by_cases hoff : down = true ∨ 100000 ≤ ops
    · have HCD : Hid (CD = 10) := by show _ = _; rw [← HCD0.out]; unfold evCode; rw [if_neg (by rw [HOK.out]; simp), if_pos hoff]
      have HOFF : Hid (down = true ∨ ops = 100000) := by rcases hoff with h | h; exact .inl h; exact .inr (by omega)
      clear hck hfB hoff hop0 hop1
      have hgo : (down = true) ∨ (down = false ∧ ops = 100000) := by
        rcases HOFF.out with h | h
        · exact .inl h
        · cases down
          · exact .inr ⟨rfl, h⟩
          · exact .inl rfl
      rcases hgo with hgo | ⟨hgo, hgo2⟩
      · subst hgo
        go_wp2_with fail
        refine (copyDevI a n cap bs ops fa m fc fs true w1 (HT.out.keep b1) (HF.out.keep b1)).mono ?_
        rintro e w2 ⟨aC, nC, cC, fC, mC, kC, tC, rfl, qC, hlC, b2⟩
        dsimp only at qC ⊢
        have B2 : Below W0.heap.size W0 w2 := b1.trans (b2.mono b1.size)
        have zr := Blk.keep HZ1.out B2
        have z5 := Blk.keep HZ5.out B2
        have r0 := zr.cell 0
        have r1 := zr.cell 1
        have r2 := zr.cell 2
        have r3 := zr.cell 3
        have f0 := zr.frozen 0
        have f1 := zr.frozen 1
        have f2 := zr.frozen 2
        have f3 := zr.frozen 3
        have zf := (((zr.set 0 (.slice aC nC cC)).set 1 (.int .i64 ops)).set 2 (.slice fC mC kC)).set 3 (.bool true)
        have t5 := (((z5.other (B' := H + 1) (by omega) 0 (.slice aC nC cC)).other (B' := H + 1) (by omega) 1 (.int .i64 ops)).other (B' := H + 1) (by omega) 2 (.slice fC mC kC)).other (B' := H + 1) (by omega) 3 (.bool true)
        have k0 := t5.cell 0
        have kf := t5.frozen 0
        have zf4 := zf.other (B' := H + 1 + 1) (by omega) 0 (.int .i64 10)
        have zf5 := t5.set 0 (.int .i64 10)
        have d0 := zf4.cell 0
        have d1 := zf4.cell 1
        have d2 := zf4.cell 2
        have d3 := zf4.cell 3
        have d4 := zf5.cell 0
        simp at r0 r1 r2 r3 k0 d0 d1 d2 d3 d4
        have HQ : Hid _ := And.intro qC (And.intro hlC B2)
        have HB1 : Hid (W0.heap.size ≤ w1.heap.size) := b1.size
        clear qC b1 b2 B2 zr zf hlC z5 t5 zf4 zf5 y0 y1 y2 y3
        go_wp2
        refine ⟨.tuple #[.agg #[.slice aC nC cC, .int .i64 ops, .slice fC mC kC, .bool true], .int .i64 10], by simp [results, Tryz.f48, go_sem, d0, d1, d2, d3, d4], ?_⟩
        rw [← HGP.out]
        have hcd := HCD.out
        have hw := HW.out
        have hH := HH.out
        obtain ⟨q, hl, B2⟩ := HQ.out
        have hb1 := HB1.out
        have bel : Below w.heap.size w w2 := HB0.out.trans (B2.mono HB0.out.size)
        rw [outs_no hcd (by decide)]
        have k : ∀ (W : World) (j i : Nat) (v : Value), j < w1.heap.size → NewDv W w1.heap.size aC nC cC fC mC kC (bs.map BkR.D) fs tC → NewDv (W.setCell ⟨j, i, none⟩ v) w1.heap.size aC nC cC fC mC kC (bs.map BkR.D) fs tC := fun W j i v hj h => h.set_below hj
        have s : ∀ (W : World) (j i : Nat) (v : Value), w.heap.size ≤ j → Below w.heap.size w W → Below w.heap.size w (W.setCell ⟨j, i, none⟩ v) := fun W j i v hj hb => hb.setCell (p := ⟨j, i, none⟩) hj v
        exact ⟨aC, nC, cC, fC, mC, kC, tC, rfl, (k _ _ _ _ (by omega) (k _ _ _ _ (by omega) (k _ _ _ _ (by omega) (k _ _ _ _ (by omega) (k _ _ _ _ (by omega) q))))).wider (by omega), hl, s _ _ _ _ (by omega) (s _ _ _ _ (by omega) (s _ _ _ _ (by omega) (s _ _ _ _ (by omega) (s _ _ _ _ (by omega) bel))))⟩
      · subst hgo hgo2
        go_wp2_with fail
        refine (copyDevI a n cap bs 100000 fa m fc fs false w1 (HT.out.keep b1) (HF.out.keep b1)).mono ?_
        rintro e w2 ⟨aC, nC, cC, fC, mC, kC, tC, rfl, qC, hlC, b2⟩
        dsimp only at qC ⊢
        have B2 : Below W0.heap.size W0 w2 := b1.trans (b2.mono b1.size)
        have zr := Blk.keep HZ1.out B2
        have z5 := Blk.keep HZ5.out B2
        have r0 := zr.cell 0
        have r1 := zr.cell 1
        have r2 := zr.cell 2
        have r3 := zr.cell 3
        have f0 := zr.frozen 0
        have f1 := zr.frozen 1
        have f2 := zr.frozen 2
        have f3 := zr.frozen 3
        have zf := (((zr.set 0 (.slice aC nC cC)).set 1 (.int .i64 100000)).set 2 (.slice fC mC kC)).set 3 (.bool false)
        have t5 := (((z5.other (B' := H + 1) (by omega) 0 (.slice aC nC cC)).other (B' := H + 1) (by omega) 1 (.int .i64 100000)).other (B' := H + 1) (by omega) 2 (.slice fC mC kC)).other (B' := H + 1) (by omega) 3 (.bool false)
        have k0 := t5.cell 0
        have kf := t5.frozen 0
        have zf4 := zf.other (B' := H + 1 + 1) (by omega) 0 (.int .i64 10)
        have zf5 := t5.set 0 (.int .i64 10)
        have d0 := zf4.cell 0
        have d1 := zf4.cell 1
        have d2 := zf4.cell 2
        have d3 := zf4.cell 3
        have d4 := zf5.cell 0
        simp at r0 r1 r2 r3 k0 d0 d1 d2 d3 d4
        have HQ : Hid _ := And.intro qC (And.intro hlC B2)
        have HB1 : Hid (W0.heap.size ≤ w1.heap.size) := b1.size
        clear qC b1 b2 B2 zr zf hlC z5 t5 zf4 zf5 y0 y1 y2 y3
        go_wp2
        refine ⟨.tuple #[.agg #[.slice aC nC cC, .int .i64 100000, .slice fC mC kC, .bool false], .int .i64 10], by simp [results, Tryz.f48, go_sem, d0, d1, d2, d3, d4], ?_⟩
        rw [← HGP.out]
        have hcd := HCD.out
        have hw := HW.out
        have hH := HH.out
        obtain ⟨q, hl, B2⟩ := HQ.out
        have hb1 := HB1.out
        have bel : Below w.heap.size w w2 := HB0.out.trans (B2.mono HB0.out.size)
        rw [outs_no hcd (by decide)]
        have k : ∀ (W : World) (j i : Nat) (v : Value), j < w1.heap.size → NewDv W w1.heap.size aC nC cC fC mC kC (bs.map BkR.D) fs tC → NewDv (W.setCell ⟨j, i, none⟩ v) w1.heap.size aC nC cC fC mC kC (bs.map BkR.D) fs tC := fun W j i v hj h => h.set_below hj
        have s : ∀ (W : World) (j i : Nat) (v : Value), w.heap.size ≤ j → Below w.heap.size w W → Below w.heap.size w (W.setCell ⟨j, i, none⟩ v) := fun W j i v hj hb => hb.setCell (p := ⟨j, i, none⟩) hj v
        exact ⟨aC, nC, cC, fC, mC, kC, tC, rfl, (k _ _ _ _ (by omega) (k _ _ _ _ (by omega) (k _ _ _ _ (by omega) (k _ _ _ _ (by omega) (k _ _ _ _ (by omega) q))))).wider (by omega), hl, s _ _ _ _ (by omega) (s _ _ _ _ (by omega) (s _ _ _ _ (by omega) (s _ _ _ _ (by omega) (s _ _ _ _ (by omega) bel))))⟩
    · have hdn : down = false := by cases down; rfl; exact absurd (.inl rfl) hoff
      subst hdn
      have hop : 0 ≤ ops ∧ ops < 100000 := by omega
      have hne : (ops == 100000) = false := by simp; omega
      obtain ⟨ks, hfl, hfw⟩ := ok_flash hck
      have HCD : Hid (CD = codeE true (bs.map BkR.D) x) := by show _ = _; rw [← HCD0.out]; unfold evCode; rw [if_neg (by rw [HOK.out]; simp), if_neg hoff]
      have hfsok : ∀ t ∈ fs, ftOk t = true := by
        rw [faultsB_asc] at hfB
        simp only [Bool.and_eq_true] at hfB
        exact List.all_eq_true.1 hfB.2.1
      clear hck hfB hoff hop0 hop1
      go_wp2_with fail
      refine (deviceOfI a n cap bs ks ops fa m fc false w1 (HT.out.keep b1) hfl).mono ?_
      rintro e w2 ⟨X, F, G, rfl, do2⟩
      clear y0 y1 y2 y3
      have b2 := do2.fo.bel
      have b3 : Below w2.heap.size w2 (w2.alloc (.cells #[.pointer (some ⟨X, 0, none⟩)] 82)) := (Below.refl _ _).alloc (Nat.le_refl _) _
      have z6 := Blk.new w2 82 #[.pointer (some ⟨X, 0, none⟩)]
      have do3 := do2.keep b3
      have hXP : X < w2.heap.size := do2.x.lt
      have hGP6 : G < w2.heap.size := do2.fo.g.lt (g := G) rfl
      obtain ⟨P6, hP6⟩ : ∃ P, w2.heap.size = P := ⟨_, rfl⟩
      have B13 := b2.trans (b3.mono b2.size)
      rw [hP6] at z6 hXP hGP6
      clear do2 b2
      go_upto_region 7 with fail
      obtain ⟨w3, hw3⟩ : ∃ W, w2.alloc (.cells #[.pointer (some ⟨X, 0, none⟩)] 82) = W := ⟨_, rfl⟩
      rw [hw3] at b3 z6 do3 B13 ⊢
      try rw [hP6]
      clear hw3 b3 hP6
      have x6 := z6.cell 0
      simp at x6
      have FR3 : FR w3 fa m fs := (HF.out.keep b1).keep B13
      have hB3 := (Blk.keep HBB.out b1).keep B13
      have hcall := dvEr1I X F G n B ks x ops fa m fc fs false w1 w3 hnn do3 FR3 hop hfsok hfw hB3
      have hcd : CD = erC ks x := HCD.out.trans (er_code hfl hfw x).symm
      have hg1 : FlGood w1 ks := ⟨fl_rd (HT.out.keep b1) hfl, by rw [hfl.D]; exact HT.out.tot⟩
      have hg : FlGood w1 (if erC ks x = 0 then opK (erAt ks x.toNat) (badAt ks x.toNat) (tornAt ks x.toNat) (faD ops fs) else ks) := opK_all _ _ hg1 (hg1.er _) (hg1.bad _) (fun t => hg1.torn _ t)
      have hD : (if erC ks x = 0 then opK (erAt ks x.toNat) (badAt ks x.toNat) (tornAt ks x.toNat) (faD ops fs) else ks).map FkR.D = outDs CD (faD ops fs) (bs.map BkR.D) (eraseAt (bs.map BkR.D) x.toNat) (badD (bs.map BkR.D) x.toNat) (tornD (bs.map BkR.D) x.toNat) := by
        rw [opK_D, hcd]
        simp only [erAt_D, badAt_D, tornAt_D, hfl.D]
      have hO : (if erC ks x = 0 then ops + 1 else ops) = outOps CD ops := by rw [hcd]; rfl
      have HFF : Hid (∀ W : World, Below w1.heap.size w1 W → FR W fa m fs) := fun W h => (HF.out.keep b1).keep h
      have HZ1w : Hid (Blk w1 (H + 1) 29 #[.slice none 0 0, .int .i64 0, .slice none 0 0, .bool false]) := Blk.keep HZ1.out b1
      have HZ5w : Hid (Blk w1 (H + 1 + 1) 3 #[.int .i64 0]) := Blk.keep HZ5.out b1
      have HEw : Hid (EtCell w1) := HE.out.keep b1
      have hsW : H + 1 + 1 + 1 ≤ w1.heap.size := by have := b1.size; have := HW.out; omega
      have HBw : Hid (Below w.heap.size w w1) := HB0.out.trans (b1.mono HB0.out.size)
      have hXn : w1.heap.size ≤ X := do3.xn
      have hHw : w.heap.size = H := HH.out
      clear b1 hg1 FR3 hB3 HCD HCD0 HOK COK HT HF HB0 HZ0 HZ1 HZ5 HBB HE hop hfsok
      go_wp2_with fail
      refine hcall.mono ?_
      rintro e w4 ⟨he, do4, sv4⟩
      rw [hO] at do4
      generalize (if erC ks x = 0 then opK (erAt ks x.toNat) (badAt ks x.toNat) (tornAt ks x.toNat) (faD ops fs) else ks) = ks' at hg hD do4
      rw [← hcd] at he
      have B14 : Below w1.heap.size w1 w4 := do4.fo.bel
      have h6 := Blk.svs z6 sv4 (by simp; omega)
      have h4 := Blk.keep HZ1w.out B14
      have h5 := Blk.keep HZ5w.out B14
      have HDD : Hid _ := hD
      have HGG : Hid _ := hg
      clear hcall hO hD hg x6 z6 sv4 do3 hcd hfl hfw
      by_cases hp : panD CD (faD ops fs)
      · obtain ⟨e1, e2, e3⟩ := evEnd_pan hp
        rw [e1] at he
        subst he
        have HEQ : Hid _ := And.intro e2 e3
        have B15 : Below w1.heap.size w1 (w4.setCell ⟨X, 3, none⟩ (.bool true)) := B14.setCell (p := ⟨X, 3, none⟩) hXn _
        have hcat := catchI X F G n P6 (H + 1) (H + 1 + 1) ks' (outOps CD ops) fa m fc fs false 149 (.int .i64 10) [] w1 w4 do4 (HFF.out _ B15) (fun f hf p hp => (HGG.out.1 f hf p hp).keep B15) HGG.out.2 h6 h4 h5 (by omega) (by omega) (by omega) (by omega)
        have HB4 : Hid _ := B14
        clear e1 e2 e3 hp do4 h6 h4 h5 B15 B14
        go_wp2
        refine leaves_cons (f := 95) (args := #[.pointer (some ⟨P6, 0, none⟩), .pointer (some ⟨H + 1, 0, none⟩), .pointer (some ⟨H + 1 + 1, 0, none⟩)]) (by simp) (by simp [go_sem]) ?_
        refine hcat.mono ?_
        rintro e u' w5 ⟨rfl, rfl, aC, nC, cC, fC, mC, kC, tC, hd, hl, z4, z5, sv5⟩
        dsimp only at hd z4 ⊢
        have d0 := z4.cell 0
        have d1 := z4.cell 1
        have d2 := z4.cell 2
        have d3 := z4.cell 3
        have d4 := z5.cell 0
        simp at d0 d1 d2 d3 d4
        refine ⟨.tuple #[.agg #[.slice aC nC cC, .int .i64 (outOps CD ops), .slice fC mC kC, .bool true], .int .i64 10], by simp [results, Tryz.f48, go_sem, d0, d1, d2, d3, d4], ?_⟩
        rw [← HGP.out]
        obtain ⟨e2, e3⟩ := HEQ.out
        rw [e2, e3, ← HDD.out]
        have hb4 := HB4.out
        have hbw := HBw.out
        have bel4 : Below w.heap.size w w4 := hbw.trans (hb4.mono hbw.size)
        have bel : Below w.heap.size w w5 := Below.svs bel4 sv5 (fun g hg => by have := hbw.size; simp at hg; omega) (Nat.le_refl _)
        exact ⟨aC, nC, cC, fC, mC, kC, tC, rfl, hd.wider bel4.size, hl, bel⟩
      · obtain ⟨e1, e3⟩ := evEnd_ret hp
        rw [e1] at he
        subst he
        have HEQ : Hid _ := e3 false
        obtain ⟨c, hc⟩ : ∃ c, outCode CD (faD ops fs) = c := ⟨_, rfl⟩
        rw [hc]
        have HC : Hid _ := hc
        have hho := dvHandI X F G n ks' (outOps CD ops) fa m fc fs false w1 w4 do4 (HFF.out _ B14) (fun f hf p hp => (HGG.out.1 f hf p hp).keep B14) HGG.out.2
        have q6 := h6.cell 0
        simp at q6
        clear e1 e3 hp do4 hc h6
        go_wp2_with fail
        refine hho.mono ?_
        rintro e w5 ⟨aC, nC, cC, fC, mC, kC, tC, rfl, hd, hl, b5⟩
        dsimp only at hd ⊢
        have B15 := B14.trans (b5.mono B14.size)
        clear hho q6
        go_wp2_with fail
        refine (codeOfI c w5 (HEw.out.keep B15)).mono ?_
        rintro e w6 ⟨rfl, b6⟩
        have zr := (h4.keep b5).keep b6
        have z5 := (h5.keep b5).keep b6
        have r0 := zr.cell 0
        have r1 := zr.cell 1
        have r2 := zr.cell 2
        have r3 := zr.cell 3
        have f0 := zr.frozen 0
        have f1 := zr.frozen 1
        have f2 := zr.frozen 2
        have f3 := zr.frozen 3
        have zf := (((zr.set 0 (.slice aC nC cC)).set 1 (.int .i64 (outOps CD ops))).set 2 (.slice fC mC kC)).set 3 (.bool false)
        have t5 := (((z5.other (B' := H + 1) (by omega) 0 (.slice aC nC cC)).other (B' := H + 1) (by omega) 1 (.int .i64 (outOps CD ops))).other (B' := H + 1) (by omega) 2 (.slice fC mC kC)).other (B' := H + 1) (by omega) 3 (.bool false)
        have k0 := t5.cell 0
        have kf := t5.frozen 0
        have zf4 := zf.other (B' := H + 1 + 1) (by omega) 0 (.int .i64 c)
        have zf5 := t5.set 0 (.int .i64 c)
        have d0 := zf4.cell 0
        have d1 := zf4.cell 1
        have d2 := zf4.cell 2
        have d3 := zf4.cell 3
        have d4 := zf5.cell 0
        simp at r0 r1 r2 r3 k0 d0 d1 d2 d3 d4
        have HN : Hid (NewDv w6 w4.heap.size aC nC cC fC mC kC (ks'.map FkR.D) fs tC ∧ tC.length = nC ∧ Below w1.heap.size w1 w6 ∧ w1.heap.size ≤ w4.heap.size) := ⟨hd.keep b6, hl, B15.trans (b6.mono B15.size), B14.size⟩
        clear hd hl b5 b6 B14 B15 zr z5 zf t5 zf4 zf5 h4 h5
        go_wp2
        refine leaves_cons (f := 95) (args := #[.pointer (some ⟨P6, 0, none⟩), .pointer (some ⟨H + 1, 0, none⟩), .pointer (some ⟨H + 1 + 1, 0, none⟩)]) (by simp) (by simp [go_sem]) ?_
        refine (idleI P6 (H + 1) (H + 1 + 1) _).mono ?_
        rintro e u' w7 ⟨rfl, rfl, hw7⟩
        obtain rfl := hw7.symm
        refine ⟨.tuple #[.agg #[.slice aC nC cC, .int .i64 (outOps CD ops), .slice fC mC kC, .bool false], .int .i64 c], by simp [results, Tryz.f48, go_sem, d0, d1, d2, d3, d4], ?_⟩
        rw [← HGP.out, HEQ.out, HC.out, ← HDD.out]
        obtain ⟨q, hl, B16, hw4⟩ := HN.out
        have hbw := HBw.out
        have bel : Below w.heap.size w w6 := hbw.trans (B16.mono hbw.size)
        have k : ∀ (W : World) (j i : Nat) (v : Value), j < w4.heap.size → NewDv W w4.heap.size aC nC cC fC mC kC (ks'.map FkR.D) fs tC → NewDv (W.setCell ⟨j, i, none⟩ v) w4.heap.size aC nC cC fC mC kC (ks'.map FkR.D) fs tC := fun W j i v hj h => h.set_below hj
        have s : ∀ (W : World) (j i : Nat) (v : Value), w.heap.size ≤ j → Below w.heap.size w W → Below w.heap.size w (W.setCell ⟨j, i, none⟩ v) := fun W j i v hj hb => hb.setCell (p := ⟨j, i, none⟩) hj v
        exact ⟨aC, nC, cC, fC, mC, kC, tC, rfl, (k _ _ _ _ (by omega) (k _ _ _ _ (by omega) (k _ _ _ _ (by omega) (k _ _ _ _ (by omega) (k _ _ _ _ (by omega) q))))).wider (by omega), hl, s _ _ _ _ (by omega) (s _ _ _ _ (by omega) (s _ _ _ _ (by omega) (s _ _ _ _ (by omega) (s _ _ _ _ (by omega) bel))))⟩
set_option maxRecDepth 100000 in
set_option maxHeartbeats 4000000 in
theorem devErI (a : Option Addr) (n cap : Nat) (bs : List BkR) (ops : Int) (fa : Option Addr) (m fc : Nat) (fs : List FtD) (down : Bool) (x : Int) (w : World) (ht : CR w a n bs) (hf : FR w fa m fs) (hE : EtCell w) :
    Calls Tryz.prog 19 #[.agg #[.slice a n cap, .int .i64 ops, .slice fa m fc, .bool down], .int .i64 x] w (DvCA w ⟨outDs (evCode (bs.map BkR.D) ops fs down (codeE true (bs.map BkR.D) x)) (faD ops fs) (bs.map BkR.D) (eraseAt (bs.map BkR.D) x.toNat) (badD (bs.map BkR.D) x.toNat) (tornD (bs.map BkR.D) x.toNat), outOps (evCode (bs.map BkR.D) ops fs down (codeE true (bs.map BkR.D) x)) ops, fs, outDown (evCode (bs.map BkR.D) ops fs down (codeE true (bs.map BkR.D) x)) (faD ops fs) down⟩ (outCode (evCode (bs.map BkR.D) ops fs down (codeE true (bs.map BkR.D) x)) (faD ops fs))) := by
  have B0 : Below w.heap.size w (((w.alloc (.cells #[.slice a n cap, .int .i64 ops, .slice fa m fc, .bool down] 29)).alloc (.cells #[.int .i64 x] 3)).alloc (.cells #[.slice none 0 0, .int .i64 0, .slice none 0 0, .bool false] 29)) := (((Below.refl _ w).alloc (Nat.le_refl _) _).alloc (by simp) _).alloc (by simp; omega) _
  have zK := (Blk.new (w.alloc (.cells #[.slice a n cap, .int .i64 ops, .slice fa m fc, .bool down] 29)) 3 #[.int .i64 x]).alloc (.cells #[.slice none 0 0, .int .i64 0, .slice none 0 0, .bool false] 29)
  have z1 := Blk.new ((w.alloc (.cells #[.slice a n cap, .int .i64 ops, .slice fa m fc, .bool down] 29)).alloc (.cells #[.int .i64 x] 3)) 29 #[.slice none 0 0, .int .i64 0, .slice none 0 0, .bool false]
  have z0 := ((Blk.new w 29 #[.slice a n cap, .int .i64 ops, .slice fa m fc, .bool down]).alloc (.cells #[.int .i64 x] 3)).alloc (.cells #[.slice none 0 0, .int .i64 0, .slice none 0 0, .bool false] 29)
  simp only [World.size_alloc] at z1 zK
  have hcall := behE a n cap (w.heap.size + 1) bs ops fa m fc fs down x _ (ht.keep B0) (hf.keep B0) zK (hE.keep B0)
  generalize outDs (evCode (bs.map BkR.D) ops fs down (codeE true (bs.map BkR.D) x)) (faD ops fs) (bs.map BkR.D) (eraseAt (bs.map BkR.D) x.toNat) (badD (bs.map BkR.D) x.toNat) (tornD (bs.map BkR.D) x.toNat) = DS at hcall ⊢
  generalize outOps (evCode (bs.map BkR.D) ops fs down (codeE true (bs.map BkR.D) x)) ops = OP at hcall ⊢
  generalize outDown (evCode (bs.map BkR.D) ops fs down (codeE true (bs.map BkR.D) x)) (faD ops fs) down = DN at hcall ⊢
  generalize outCode (evCode (bs.map BkR.D) ops fs down (codeE true (bs.map BkR.D) x)) (faD ops fs) = c at hcall ⊢
  generalize hGP : DvCA w ⟨DS, OP, fs, DN⟩ c = P
  have HGP : Hid _ := hGP
  have hmf : ∀ (fn : Fn) (first cap : Array Value) (w : World), (Instr.makeFunc fn first cap).run Tryz.prog w = .ok (.func fn first cap) w := fun _ _ _ _ => rfl
  obtain ⟨H, hH⟩ : ∃ H, w.heap.size = H := ⟨_, rfl⟩
  have HH : Hid (w.heap.size = H) := hH
  rw [hH] at hcall z1 z0
  clear hGP ht hf hE zK
  go_enter Tryz.func19, Tryz.ntmps19
  go_upto_region 1 with fail
  try rw [hH]
  obtain ⟨W0, hW0⟩ : ∃ W, ((w.alloc (.cells #[.slice a n cap, .int .i64 ops, .slice fa m fc, .bool down] 29)).alloc (.cells #[.int .i64 x] 3)).alloc (.cells #[.slice none 0 0, .int .i64 0, .slice none 0 0, .bool false] 29) = W := ⟨_, rfl⟩
  have hws : W0.heap.size = w.heap.size + 3 := by rw [← hW0]; simp
  rw [hW0] at B0 z1 z0 hcall ⊢
  clear hW0
  have HW : Hid _ := hws
  have HB0 : Hid _ := B0
  have HZ1 : Hid (Blk W0 (H + 1 + 1) 29 #[.slice none 0 0, .int .i64 0, .slice none 0 0, .bool false]) := z1
  have x0 := z0.cell 0
  have x1 := z0.cell 1
  have x2 := z0.cell 2
  have x3 := z0.cell 3
  simp at x0 x1 x2 x3
  clear B0 z1 z0 hH hws
  go_wp2_with fail
  refine hcall.mono ?_
  rintro e w1 ⟨aC, nC, cC, fC, mC, kC, tC, rfl, qC, hlC, b1⟩
  dsimp only at qC ⊢
  have zr := Blk.keep HZ1.out b1
  have r0 := zr.cell 0
  have r1 := zr.cell 1
  have r2 := zr.cell 2
  have r3 := zr.cell 3
  have f0 := zr.frozen 0
  have f1 := zr.frozen 1
  have f2 := zr.frozen 2
  have f3 := zr.frozen 3
  have zf := (((zr.set 0 (.slice aC nC cC)).set 1 (.int .i64 OP)).set 2 (.slice fC mC kC)).set 3 (.bool DN)
  have d0 := zf.cell 0
  have d1 := zf.cell 1
  have d2 := zf.cell 2
  have d3 := zf.cell 3
  simp at r0 r1 r2 r3 d0 d1 d2 d3
  have HQ : Hid _ := And.intro qC (And.intro hlC b1)
  clear qC b1 zr zf hlC x0 x1 x2 x3 hcall
  go_wp2
  refine bodyPost_ret (v := .tuple #[.agg #[.slice aC nC cC, .int .i64 OP, .slice fC mC kC, .bool DN], .int .i64 c]) (by simp [results, Tryz.f19, go_sem, d0, d1, d2, d3]) rfl ?_
  rw [← HGP.out]
  obtain ⟨q, hl, b1⟩ := HQ.out
  have hw := HW.out
  have hH := HH.out
  have bel : Below w.heap.size w w1 := HB0.out.trans (b1.mono HB0.out.size)
  have h1 : H + 1 + 1 < W0.heap.size := by omega
  have s : ∀ (W : World) (i : Nat) (v : Value), Below w.heap.size w W → Below w.heap.size w (W.setCell ⟨H + 1 + 1, i, none⟩ v) := fun W i v hb => hb.setCell (p := ⟨H + 1 + 1, i, none⟩) (by simp only; omega) v
  exact ⟨aC, nC, cC, fC, mC, kC, tC, rfl, ((((q.set_below h1).set_below h1).set_below h1).set_below h1).wider (by omega), hl, s _ _ _ (s _ _ _ (s _ _ _ (s _ _ _ bel)))⟩
end

section
open Go.RowKit
set_option maxHeartbeats 1000000 in
theorem sameLb_any (a a' : Option Addr) (n m cap cap' : Nat) (zs ys : List Int) (w : World) (hn : zs.length = n) (hm : ys.length = m) (hs : n ≤ 4000000) (hs' : m ≤ 4000000) (hr : Rd w a zs) (hr' : Rd w a' ys) :
    Calls Tryz.prog 16 #[.slice a n cap, .slice a' m cap'] w fun e w' => e = .returned (.bool (decide (zs = ys))) ∧ ∃ d, w' = w.drewN d := by
  by_cases hnm : n = m
  · subst hnm
    by_cases h0 : n = 0
    · subst h0
      obtain rfl : zs = [] := List.length_eq_zero_iff.1 hn
      obtain rfl : ys = [] := List.length_eq_zero_iff.1 hm
      go_enter Tryz.func16, Tryz.ntmps16
      go_wp2
      refine wp_loop_rounds 1 ?_; rw [rounds_succ]
      go_wp2
      go_ret
      exact ⟨rfl, 0, rfl⟩
    · obtain ⟨b, off, rfl, hlt, hc⟩ := hr.lt (by intro h; subst h; simp at hn; omega)
      obtain ⟨b', off', rfl, hlt', hc'⟩ := hr'.lt (by intro h; subst h; simp at hm; omega)
      have HC : Hid _ := hc
      have HC' : Hid _ := hc'
      have hn' : Hid (zs.length = n) := hn
      have hm' : Hid (ys.length = n) := hm
      clear hr hr' hc hc' hn hm
      go_enter Tryz.func16, Tryz.ntmps16
      go_wp2
      go_loopw [5] (fun i wr => ∃ k d : Nat, k ≤ n ∧ i = .int .i64 k ∧ wr = w.drewN d ∧ Hid (∀ j, j < k → zs.getD j 0 = ys.getD j 0)) (fun i _ => n - (intOf i).toNat)
      case atStart => exact ⟨0, 0, Nat.zero_le _, rfl, rfl, fun j hj => by omega⟩
      case round =>
        obtain ⟨k, d, hk, rfl, hwr0, hall⟩ := hrel
        have hwr : Hid (wr = w.drewN d) := hwr0
        have hcells : ∀ p, wr.cell? p = w.cell? p := fun p => by rw [hwr0]; rfl
        clear hwr0
        by_cases hkn : k < n
        · have hki : (k : Int) < (n : Int) := by omega
          have x1 := HC.out k (by rw [hn'.out]; exact hkn)
          have y1 := HC'.out k (by rw [hm'.out]; exact hkn)
          rw [← hcells] at x1 y1
          have hyes : zs.getD k 0 = ys.getD k 0 → ∀ j, j < k + 1 → zs.getD j 0 = ys.getD j 0 := by
            intro e j hj
            rcases (show j < k ∨ j = k by omega) with hj | rfl
            · exact hall.out j hj
            · exact e
          have hno : zs.getD k 0 ≠ ys.getD k 0 → decide (zs = ys) = false := fun e => decide_eq_false (fun e' => e (by rw [e']))
          obtain ⟨z, hz⟩ : ∃ z, zs.getD k 0 = z := ⟨_, rfl⟩
          obtain ⟨y, hy⟩ : ∃ y, ys.getD k 0 = y := ⟨_, rfl⟩
          rw [hz] at x1 hyes hno
          rw [hy] at y1 hyes hno
          by_cases heq : z = y
          · have heq' : (z == y) = true := by simp [heq]
            have hnx : Hid _ := hyes heq
            clear hyes hno heq hz hy hcells hall
            go_wp2
            go_quiet (fail)
            go_wp2
            go_roundw
            case rel => exact ⟨k + 1, d + nq, by omega, by go_num, by rw [hwr.out, World.drewN_drewN], hnx⟩
            case measure => simp [intOf]; omega
          · have heq' : (z == y) = false := by simp [heq]
            have hfin : Hid _ := hno heq
            clear hyes hno heq hz hy hcells hall
            go_wp2
            go_quiet (fail)
            go_wp2
            go_ret
            exact ⟨ret_bool hfin.out.symm, d + nq, by rw [hwr.out, World.drewN_drewN]⟩
        · have hki : ¬ (k : Int) < (n : Int) := by omega
          have hfin : Hid (decide (zs = ys) = true) := decide_eq_true (List.ext_getElem (by rw [hn'.out, hm'.out]) (fun j h h' => by
            have := hall.out j (by rw [hn'.out] at h; omega)
            simpa [h, h'] using this))
          clear hcells hall
          go_wp2
          go_ret
          exact ⟨ret_bool hfin.out.symm, d, hwr.out⟩
  · have hne : Hid (decide (zs = ys) = false) := decide_eq_false (fun e => hnm (by rw [← hn, ← hm, e]))
    have hnm' : ((n : Int) == (m : Int)) = false := by simp; omega
    clear hr hr' hn hm hnm
    go_enter Tryz.func16, Tryz.ntmps16
    go_wp2
    go_ret
    exact ⟨ret_bool hne.out.symm, 0, rfl⟩
end

section
open Go.RowKit
theorem bk_same {ts ts' : List BkR} {k : Nat} {r r' : BkR} (h : ts.map BkR.D = ts'.map BkR.D) (hr : ts[k]? = some r) (hr' : ts'[k]? = some r') : r.ps.map PgR.D = r'.ps.map PgR.D ∧ r.wear = r'.wear ∧ r.bad = r'.bad := by
  have h1 : (ts.map BkR.D)[k]? = some r.D := by rw [List.getElem?_map, hr]; rfl
  rw [h, List.getElem?_map, hr'] at h1
  simp only [Option.map_some, Option.some.injEq, BkR.D, BkD.mk.injEq] at h1
  exact ⟨h1.1.symm, h1.2.1.symm, h1.2.2.symm⟩
theorem pg_same {ps ps' : List PgR} {k : Nat} {p p' : PgR} (h : ps.map PgR.D = ps'.map PgR.D) (hr : ps[k]? = some p) (hr' : ps'[k]? = some p') : p.used = p'.used ∧ p.zs = p'.zs := by
  have h1 : (ps.map PgR.D)[k]? = some p.D := by rw [List.getElem?_map, hr]; rfl
  rw [h, List.getElem?_map, hr'] at h1
  simp only [Option.map_some, Option.some.injEq, PgR.D, PgD.mk.injEq] at h1
  exact ⟨h1.1.symm, h1.2.symm⟩
theorem totP_len' (ps : List PgD) : ps.length ≤ totP ps := by
  induction ps with
  | nil => simp [totP]
  | cons d ds ih => rw [totP_cons, List.length_cons]; omega
set_option maxRecDepth 100000 in
set_option maxHeartbeats 8000000 in
theorem sameChip_same (a a' : Option Addr) (n c c' : Nat) (ts ts' : List BkR) (w : World) (h : CR w a n ts) (h' : CR w a' n ts') (he : ts.map BkR.D = ts'.map BkR.D) :
    Calls Tryz.prog 14 #[.agg #[.slice a n c], .agg #[.slice a' n c']] w fun e w' => e = .returned (.bool true) ∧ Below w.heap.size w w' := by
  have hnn := h.n
  have B0 : Below w.heap.size w ((w.alloc (.cells #[.slice a n c] 26)).alloc (.cells #[.slice a' n c'] 26)) := ((Below.refl _ w).alloc (Nat.le_refl _) _).alloc (by simp) _
  have z0 := (Blk.new w 26 #[.slice a n c]).alloc (.cells #[.slice a' n c'] 26)
  have z1 := Blk.new (w.alloc (.cells #[.slice a n c] 26)) 26 #[.slice a' n c']
  simp only [World.size_alloc] at z1
  obtain ⟨H, hH⟩ : ∃ H, w.heap.size = H := ⟨_, rfl⟩
  rw [hH] at z0 z1
  obtain ⟨W0, hW0⟩ : ∃ W, (w.alloc (.cells #[.slice a n c] 26)).alloc (.cells #[.slice a' n c'] 26) = W := ⟨_, rfl⟩
  rw [hW0] at B0 z0 z1
  have HB0 : Hid (Below w.heap.size w W0) := B0
  have HZ0 : Hid (Blk W0 H 26 #[.slice a n c]) := z0
  have HZ1 : Hid (Blk W0 (H + 1) 26 #[.slice a' n c']) := z1
  have HC : Hid (CR W0 a n ts) := h.keep B0
  have HC' : Hid (CR W0 a' n ts') := h'.keep B0
  have HE : Hid (ts.map BkR.D = ts'.map BkR.D) := he
  have hnf : ((n : Int) != (n : Int)) = false := by simp
  have q0 := z0.cell 0
  have q1 := z1.cell 0
  simp at q0 q1
  clear h h' he B0 z0 z1
  go_enter Tryz.func14, Tryz.ntmps14
  go_wp2_with fail
  try rw [hH]
  try rw [hW0]
  clear hW0
  go_wp2
  go_loopw [5] (fun i wr => ∃ k : Nat, k ≤ n ∧ i = .int .i64 k ∧ Hid (Below W0.heap.size W0 wr)) (fun i _ => n - (intOf i).toNat)
  case atStart => exact ⟨0, Nat.zero_le _, rfl, Below.refl _ _⟩
  case round =>
    obtain ⟨k, hk, rfl, hB⟩ := hrel
    clear q0 q1
    have q0 := (HZ0.out.keep hB.out).cell 0
    have q1 := (HZ1.out.keep hB.out).cell 0
    simp at q0 q1
    by_cases hkn : k < n
    · have hki : (k : Int) < (n : Int) := by omega
      obtain ⟨b, off, r, rfl, hlt, hrk, ⟨x0, x1, x2⟩, hrp, htp⟩ := (HC.out.keep hB.out).some hkn
      obtain ⟨b', off', r', rfl, hlt', hrk', ⟨y0, y1, y2⟩, hrp', htp'⟩ := (HC'.out.keep hB.out).some hkn
      obtain ⟨e1, e2, e3⟩ := bk_same HE.out hrk hrk'
      obtain ⟨ra, rc, ps, wear, bad⟩ := r
      obtain ⟨ra', rc', ps', wear', bad'⟩ := r'
      dsimp only at x0 x1 x2 y0 y1 y2 hrp hrp' htp htp' e1 e2 e3
      subst e2 e3
      have hml : ps'.length = ps.length := by have := congrArg List.length e1; simp at this; omega
      rw [hml] at y0
      have hmt : ps.length ≤ 1048576 := by have := totP_len' (ps.map PgR.D); simp at this; omega
      obtain ⟨m, hm⟩ : ∃ m, ps.length = m := ⟨_, rfl⟩
      rw [hm] at x0 y0 hmt
      have HM : Hid (ps.length = m) := hm
      have HM' : Hid (ps'.length = m) := hml.trans hm
      have HPS : Hid (ps.map PgR.D = ps'.map PgR.D) := e1
      have HTP : Hid (totP (ps.map PgR.D) ≤ 1048576) := htp
      have hsz := hB.out.size
      have bA : Below wr.heap.size wr ((wr.alloc (.cells #[.slice ra m rc, .int .i64 wear, .bool bad] 42)).alloc (.cells #[.slice ra' m rc', .int .i64 wear, .bool bad] 42)) := ((Below.refl _ wr).alloc (Nat.le_refl _) _).alloc (by simp) _
      have u0 := (Blk.new wr 42 #[.slice ra m rc, .int .i64 wear, .bool bad]).alloc (.cells #[.slice ra' m rc', .int .i64 wear, .bool bad] 42)
      have u1 := Blk.new (wr.alloc (.cells #[.slice ra m rc, .int .i64 wear, .bool bad] 42)) 42 #[.slice ra' m rc', .int .i64 wear, .bool bad]
      simp only [World.size_alloc] at u1
      have y0' : (wr.alloc (.cells #[.slice ra m rc, .int .i64 wear, .bool bad] 42)).cell? ⟨b', off' + k * 3, none⟩ = _ := Lib.cell?_alloc_some _ y0
      have y1' : (wr.alloc (.cells #[.slice ra m rc, .int .i64 wear, .bool bad] 42)).cell? ⟨b', off' + k * 3 + 1, none⟩ = _ := Lib.cell?_alloc_some _ y1
      have y2' : (wr.alloc (.cells #[.slice ra m rc, .int .i64 wear, .bool bad] 42)).cell? ⟨b', off' + k * 3 + 2, none⟩ = _ := Lib.cell?_alloc_some _ y2
      have q1' : (wr.alloc (.cells #[.slice ra m rc, .int .i64 wear, .bool bad] 42)).cell? ⟨H + 1, 0, none⟩ = _ := Lib.cell?_alloc_some _ q1
      obtain ⟨V, hV⟩ : ∃ V, (wr.alloc (.cells #[.slice ra m rc, .int .i64 wear, .bool bad] 42)).alloc (.cells #[.slice ra' m rc', .int .i64 wear, .bool bad] 42) = V := ⟨_, rfl⟩
      obtain ⟨G, hG⟩ : ∃ G, wr.heap.size = G := ⟨_, rfl⟩
      rw [hV] at bA u0 u1
      rw [hG] at u0 u1
      have HU0 : Hid (Blk V G 42 #[.slice ra m rc, .int .i64 wear, .bool bad]) := u0
      have HU1 : Hid (Blk V (G + 1) 42 #[.slice ra' m rc', .int .i64 wear, .bool bad]) := u1
      have HRP : Hid (RdPs V ra ps) := hrp.keep bA
      have HRP' : Hid (RdPs V ra' ps') := hrp'.keep bA
      have HBV : Hid (Below W0.heap.size W0 V) := hB.out.trans (bA.mono hsz)
      have hwf : (wear != wear) = false := by simp
      have hbf : (bad != bad) = false := by simp
      have hmf : ((m : Int) != (m : Int)) = false := by simp
      obtain ⟨v0, v1, v2⟩ : _ ∧ _ ∧ _ := ⟨u0.cell 0, u0.cell 1, u0.cell 2⟩
      obtain ⟨t0, t1, t2⟩ : _ ∧ _ ∧ _ := ⟨u1.cell 0, u1.cell 1, u1.cell 2⟩
      simp at v0 v1 v2 t0 t1 t2
      clear hrk hrk' hrp hrp' htp htp' e1 hml hm bA u0 u1 hsz
      go_upto_region 8 with fail
      try rw [hV]
      try rw [hG]
      clear hV hG x0 x1 x2 y0 y1 y2 y0' y1' y2' q0 q1 q1'
      go_wp2
      go_loopw [8] (fun i wr => ∃ j : Nat, j ≤ m ∧ i = .int .i64 j ∧ Hid (Below V.heap.size V wr)) (fun i _ => m - (intOf i).toNat)
      case atStart => exact ⟨0, Nat.zero_le _, rfl, Below.refl _ _⟩
      case round =>
        obtain ⟨j, hj, rfl, hBi⟩ := hrel
        clear v0 v1 v2 t0 t1 t2
        have v0 := (HU0.out.keep hBi.out).cell 0
        have t0 := (HU1.out.keep hBi.out).cell 0
        simp at v0 t0
        by_cases hjm : j < m
        · have hji : (j : Int) < (m : Int) := by omega
          obtain ⟨p, hp⟩ : ∃ p, ps[j]? = some p := ⟨_, List.getElem?_eq_getElem (by rw [HM.out]; exact hjm)⟩
          obtain ⟨p', hp'⟩ : ∃ p, ps'[j]? = some p := ⟨_, List.getElem?_eq_getElem (by rw [HM'.out]; exact hjm)⟩
          obtain ⟨e1, e2⟩ := pg_same HPS.out hp hp'
          obtain ⟨pb, po, rfl, plt, pc⟩ := (HRP.out.keep hBi.out).lt (by intro e; subst e; simp at hp)
          obtain ⟨pb', po', rfl, plt', pc'⟩ := (HRP'.out.keep hBi.out).lt (by intro e; subst e; simp at hp')
          obtain ⟨⟨p0, p1⟩, pr⟩ := pc j p hp
          obtain ⟨⟨r0, r1⟩, prr⟩ := pc' j p' hp'
          have hzl : p.zs.length ≤ 1048576 := by
            have h1 : p.D ∈ ps.map PgR.D := List.mem_map_of_mem (List.mem_of_getElem? hp)
            have := totP_mem h1
            have h2 := HTP.out
            have h3 : p.D.zs = p.zs := rfl
            rw [h3] at this
            omega
          obtain ⟨us, pa, pcap, zs⟩ := p
          obtain ⟨us', pa', pcap', zs'⟩ := p'
          dsimp only at p0 p1 pr r0 r1 prr e1 e2 hzl
          subst e1 e2
          obtain ⟨l, hl⟩ : ∃ l, zs.length = l := ⟨_, rfl⟩
          rw [hl] at p1 r1 hzl
          have HL : Hid (zs.length = l) := hl
          have huf : (us != us) = false := by simp
          have hcall := sameLb_any pa pa' l l pcap pcap' zs zs wr.drew HL.out HL.out (by omega) (by omega) (pr.keep (Below.refl _ _).drew) (prr.keep (Below.refl _ _).drew)
          rw [show decide (zs = zs) = true by simp] at hcall
          have HPC : Hid (∀ d, (wr.drew.drewN d).cell? ⟨G, 0, none⟩ = some (.slice (some ⟨pb, po, none⟩) m rc) ∧ (wr.drew.drewN d).cell? ⟨G + 1, 0, none⟩ = some (.slice (some ⟨pb', po', none⟩) m rc') ∧ (wr.drew.drewN d).cell? ⟨pb, po + j * 2, none⟩ = some (.bool us) ∧ (wr.drew.drewN d).cell? ⟨pb, po + j * 2 + 1, none⟩ = some (.slice pa l pcap) ∧ (wr.drew.drewN d).cell? ⟨pb', po' + j * 2, none⟩ = some (.bool us) ∧ (wr.drew.drewN d).cell? ⟨pb', po' + j * 2 + 1, none⟩ = some (.slice pa' l pcap')) := fun d => ⟨v0, t0, p0, p1, r0, r1⟩
          have HBI : Hid (Below V.heap.size V wr.drew) := hBi.out.drew
          clear hp hp' pc pc' pr prr hl plt plt'
          go_upto_region 13 with fail
          refine wp_region_noPanic ?_
          refine wp_region_held_drew (S := fun W : World => W.cell? ⟨G, 0, none⟩ = some (.slice (some ⟨pb, po, none⟩) m rc) ∧ W.cell? ⟨G + 1, 0, none⟩ = some (.slice (some ⟨pb', po', none⟩) m rc') ∧ W.cell? ⟨pb, po + j * 2, none⟩ = some (.bool us) ∧ W.cell? ⟨pb, po + j * 2 + 1, none⟩ = some (.slice pa l pcap) ∧ W.cell? ⟨pb', po' + j * 2, none⟩ = some (.bool us) ∧ W.cell? ⟨pb', po' + j * 2 + 1, none⟩ = some (.slice pa' l pcap')) (by kernel_rfl) (by go_keep) (fun hS => ?_)
          refine wpAnyH_take (i := 0) (v := ?gv1) rfl (by kernel_rfl) (by kernel_rfl) (by kernel_rfl) (fun _ _ _ h => h) (Or.inl ⟨by kernel_rfl, ?gy1⟩) (by assumption) ?gr1
          case gy1 => (intro w' hSw; (try dsimp only at hSw); go_simp; (try with_reducible rfl))
          try simp only [Act.put, List.setIfInBounds_toArray, List.set_cons_zero, List.set_cons_succ, List.getElem_toArray, List.getElem_cons_zero]
          refine wpAnyH_take (i := 1) (v := ?gv2) rfl (by kernel_rfl) (by kernel_rfl) (by kernel_rfl) (fun _ _ _ h => h) (Or.inl ⟨by kernel_rfl, ?gy2⟩) (by assumption) ?gr2
          case gy2 => (intro w' hSw; (try dsimp only at hSw); go_simp; (try with_reducible rfl))
          try simp only [Act.put, List.setIfInBounds_toArray, List.set_cons_zero, List.set_cons_succ, List.getElem_toArray, List.getElem_cons_succ, List.getElem_cons_zero]
          refine wpAnyH_take (i := 2) (v := ?gv3) rfl (by kernel_rfl) (by kernel_rfl) (by kernel_rfl) (fun _ _ _ h => h) (Or.inl ⟨by kernel_rfl, ?gy3⟩) (by assumption) ?gr3
          case gy3 => (intro w' hSw; (try dsimp only at hSw); go_simp; (try with_reducible rfl))
          try simp only [Act.put, List.setIfInBounds_toArray, List.set_cons_zero, List.set_cons_succ, List.getElem_toArray, List.getElem_cons_succ, List.getElem_cons_zero]
          refine wpAnyH_take (i := 3) (v := ?gv4) rfl (by kernel_rfl) (by kernel_rfl) (by kernel_rfl) (fun _ _ _ h => h) (Or.inl ⟨by kernel_rfl, ?gy4⟩) (by assumption) ?gr4
          case gy4 => (intro w' hSw; (try dsimp only at hSw); go_simp; (try with_reducible rfl))
          try simp only [Act.put, List.setIfInBounds_toArray, List.set_cons_zero, List.set_cons_succ, List.getElem_toArray, List.getElem_cons_succ, List.getElem_cons_zero]
          refine wpAnyH_take (i := 4) (v := ?gv5) rfl (by kernel_rfl) (by kernel_rfl) (by kernel_rfl) (fun _ _ _ h => h) (Or.inl ⟨by kernel_rfl, ?gy5⟩) (by assumption) ?gr5
          case gy5 => (intro w' hSw; (try dsimp only at hSw); go_simp; (try with_reducible rfl))
          try simp only [Act.put, List.setIfInBounds_toArray, List.set_cons_zero, List.set_cons_succ, List.getElem_toArray, List.getElem_cons_succ, List.getElem_cons_zero]
          refine wpAnyH_take (i := 5) (v := ?gv6) rfl (by kernel_rfl) (by kernel_rfl) (by kernel_rfl) (fun _ _ _ h => h) (Or.inl ⟨by kernel_rfl, ?gy6⟩) (by assumption) ?gr6
          case gy6 => (intro w' hSw; (try dsimp only at hSw); go_simp; (try with_reducible rfl))
          try simp only [Act.put, List.setIfInBounds_toArray, List.set_cons_zero, List.set_cons_succ, List.getElem_toArray, List.getElem_cons_succ, List.getElem_cons_zero]
          refine wpAnyH_take (i := 6) (v := ?gv7) rfl (by kernel_rfl) (by kernel_rfl) (by kernel_rfl) (fun _ _ _ h => h) (Or.inl ⟨by kernel_rfl, ?gy7⟩) (by assumption) ?gr7
          case gy7 => (intro w' hSw; (try dsimp only at hSw); go_simp; (try with_reducible rfl))
          try simp only [Act.put, List.setIfInBounds_toArray, List.set_cons_zero, List.set_cons_succ, List.getElem_toArray, List.getElem_cons_succ, List.getElem_cons_zero]
          refine wpAnyH_take (i := 7) (v := ?gv8) rfl (by kernel_rfl) (by kernel_rfl) (by kernel_rfl) (fun _ _ _ h => h) (Or.inl ⟨by kernel_rfl, ?gy8⟩) (by assumption) ?gr8
          case gy8 => (intro w' hSw; (try dsimp only at hSw); go_simp; (try with_reducible rfl))
          try simp only [Act.put, List.setIfInBounds_toArray, List.set_cons_zero, List.set_cons_succ, List.getElem_toArray, List.getElem_cons_succ, List.getElem_cons_zero]
          refine wpAnyH_take (i := 8) (v := ?gv9) rfl (by kernel_rfl) (by kernel_rfl) (by kernel_rfl) (fun _ _ _ h => h) (Or.inl ⟨by kernel_rfl, ?gy9⟩) (by assumption) ?gr9
          case gy9 => (intro w' hSw; (try dsimp only at hSw); go_simp; (try with_reducible rfl))
          try simp only [Act.put, List.setIfInBounds_toArray, List.set_cons_zero, List.set_cons_succ, List.getElem_toArray, List.getElem_cons_succ, List.getElem_cons_zero]
          refine wpAnyH_take (i := 9) (v := ?gv10) rfl (by kernel_rfl) (by kernel_rfl) (by kernel_rfl) (fun _ _ _ h => h) (Or.inl ⟨by kernel_rfl, ?gy10⟩) (by assumption) ?gr10
          case gy10 => (intro w' hSw; (try dsimp only at hSw); go_simp; (try with_reducible rfl))
          try simp only [Act.put, List.setIfInBounds_toArray, List.set_cons_zero, List.set_cons_succ, List.getElem_toArray, List.getElem_cons_succ, List.getElem_cons_zero]
          refine wpAnyH_take (i := 10) (v := ?gv11) rfl (by kernel_rfl) (by kernel_rfl) (by kernel_rfl) (fun _ _ _ h => h) (Or.inl ⟨by kernel_rfl, ?gy11⟩) (by assumption) ?gr11
          case gy11 => (intro w' hSw; (try dsimp only at hSw); go_simp; (try with_reducible rfl))
          try simp only [Act.put, List.setIfInBounds_toArray, List.set_cons_zero, List.set_cons_succ, List.getElem_toArray, List.getElem_cons_succ, List.getElem_cons_zero]
          refine wpAnyH_take (i := 11) (v := ?gv12) rfl (by kernel_rfl) (by kernel_rfl) (by kernel_rfl) (fun _ _ _ h => h) (Or.inl ⟨by kernel_rfl, ?gy12⟩) (by assumption) ?gr12
          case gy12 => (intro w' hSw; (try dsimp only at hSw); go_simp; (try with_reducible rfl))
          try simp only [Act.put, List.setIfInBounds_toArray, List.set_cons_zero, List.set_cons_succ, List.getElem_toArray, List.getElem_cons_succ, List.getElem_cons_zero]
          refine wpAnyH_take (i := 12) (v := ?gv13) rfl (by kernel_rfl) (by kernel_rfl) (by kernel_rfl) (fun _ _ _ h => h) (Or.inl ⟨by kernel_rfl, ?gy13⟩) (by assumption) ?gr13
          case gy13 => (intro w' hSw; (try dsimp only at hSw); go_simp; (try with_reducible rfl))
          try simp only [Act.put, List.setIfInBounds_toArray, List.set_cons_zero, List.set_cons_succ, List.getElem_toArray, List.getElem_cons_succ, List.getElem_cons_zero]
          refine wpAnyH_take (i := 13) (v := ?gv14) rfl (by kernel_rfl) (by kernel_rfl) (by kernel_rfl) (fun _ _ _ h => h) (Or.inl ⟨by kernel_rfl, ?gy14⟩) (by assumption) ?gr14
          case gy14 => (intro w' hSw; (try dsimp only at hSw); go_simp; (try with_reducible rfl))
          try simp only [Act.put, List.setIfInBounds_toArray, List.set_cons_zero, List.set_cons_succ, List.getElem_toArray, List.getElem_cons_succ, List.getElem_cons_zero]
          refine wpAnyH_take (i := 14) (v := ?gv15) rfl (by kernel_rfl) (by kernel_rfl) (by kernel_rfl) (fun _ _ _ h => h) (Or.inl ⟨by kernel_rfl, ?gy15⟩) (by assumption) ?gr15
          case gy15 => (intro w' hSw; (try dsimp only at hSw); go_simp; (try with_reducible rfl))
          try simp only [Act.put, List.setIfInBounds_toArray, List.set_cons_zero, List.set_cons_succ, List.getElem_toArray, List.getElem_cons_succ, List.getElem_cons_zero]
          refine wpAnyH_take (i := 15) (v := ?gv16) rfl (by kernel_rfl) (by kernel_rfl) (by kernel_rfl) (fun _ _ _ h => h) (Or.inl ⟨by kernel_rfl, ?gy16⟩) (by assumption) ?gr16
          case gy16 => (intro w' hSw; (try dsimp only at hSw); go_simp; (try with_reducible rfl))
          try simp only [Act.put, List.setIfInBounds_toArray, List.set_cons_zero, List.set_cons_succ, List.getElem_toArray, List.getElem_cons_succ, List.getElem_cons_zero]
          refine wpAnyH_take (i := 16) (v := ?gv17) rfl (by kernel_rfl) (by kernel_rfl) (by kernel_rfl) (fun _ _ _ h => h) (Or.inl ⟨by kernel_rfl, ?gy17⟩) (by assumption) ?gr17
          case gy17 => (intro w' hSw; (try dsimp only at hSw); go_simp; (try with_reducible rfl))
          try simp only [Act.put, List.setIfInBounds_toArray, List.set_cons_zero, List.set_cons_succ, List.getElem_toArray, List.getElem_cons_succ, List.getElem_cons_zero]
          refine wpAnyH_take (i := 17) (v := ?gv18) rfl (by kernel_rfl) (by kernel_rfl) (by kernel_rfl) (fun _ _ _ h => h) (Or.inl ⟨by kernel_rfl, ?gy18⟩) (by assumption) ?gr18
          case gy18 => (intro w' hSw; (try dsimp only at hSw); go_simp; (try with_reducible rfl))
          try simp only [Act.put, List.setIfInBounds_toArray, List.set_cons_zero, List.set_cons_succ, List.getElem_toArray, List.getElem_cons_succ, List.getElem_cons_zero]
          refine wpAnyH_take (i := 18) (v := ?gv19) rfl (by kernel_rfl) (by kernel_rfl) (by kernel_rfl) (fun _ _ _ h => h) (Or.inl ⟨by kernel_rfl, ?gy19⟩) (by assumption) ?gr19
          case gy19 => (intro w' hSw; (try dsimp only at hSw); go_simp; (try with_reducible rfl))
          try simp only [Act.put, List.setIfInBounds_toArray, List.set_cons_zero, List.set_cons_succ, List.getElem_toArray, List.getElem_cons_succ, List.getElem_cons_zero]
          refine wpAnyH_take (i := 19) (v := ?gv20) rfl (by kernel_rfl) (by kernel_rfl) (by kernel_rfl) (fun _ _ _ h => h) (Or.inl ⟨by kernel_rfl, ?gy20⟩) (by assumption) ?gr20
          case gy20 => (intro w' hSw; (try dsimp only at hSw); go_simp; (try with_reducible rfl))
          try simp only [Act.put, List.setIfInBounds_toArray, List.set_cons_zero, List.set_cons_succ, List.getElem_toArray, List.getElem_cons_succ, List.getElem_cons_zero]
          refine wpAnyH_take (i := 20) (v := ?gv21) rfl (by kernel_rfl) (by kernel_rfl) (by kernel_rfl) (fun _ _ _ h => h) (Or.inl ⟨by kernel_rfl, ?gy21⟩) (by assumption) ?gr21
          case gy21 => (intro w' hSw; (try dsimp only at hSw); go_simp; (try with_reducible rfl))
          try simp only [Act.put, List.setIfInBounds_toArray, List.set_cons_zero, List.set_cons_succ, List.getElem_toArray, List.getElem_cons_succ, List.getElem_cons_zero]
          refine wpAnyH_take (i := 21) (v := ?gv22) rfl (by kernel_rfl) (by kernel_rfl) (by kernel_rfl) (fun _ _ _ h => h) (Or.inl ⟨by kernel_rfl, ?gy22⟩) (by assumption) ?gr22
          case gy22 => (intro w' hSw; (try dsimp only at hSw); go_simp; (try with_reducible rfl))
          try simp only [Act.put, List.setIfInBounds_toArray, List.set_cons_zero, List.set_cons_succ, List.getElem_toArray, List.getElem_cons_succ, List.getElem_cons_zero]
          refine wpAnyH_take (i := 22) (v := ?gv23) rfl (by kernel_rfl) (by kernel_rfl) (by kernel_rfl) (fun _ _ _ h => h) (Or.inl ⟨by kernel_rfl, ?gy23⟩) (by assumption) ?gr23
          case gy23 => (intro w' hSw; (try dsimp only at hSw); go_simp; (try with_reducible rfl))
          try simp only [Act.put, List.setIfInBounds_toArray, List.set_cons_zero, List.set_cons_succ, List.getElem_toArray, List.getElem_cons_succ, List.getElem_cons_zero]
          refine wpAnyH_take (i := 23) (v := ?gv24) rfl (by kernel_rfl) (by kernel_rfl) (by kernel_rfl) (fun _ _ _ h => h) (Or.inl ⟨by kernel_rfl, ?gy24⟩) (by assumption) ?gr24
          case gy24 => (intro w' hSw; (try dsimp only at hSw); go_simp; (try with_reducible rfl))
          try simp only [Act.put, List.setIfInBounds_toArray, List.set_cons_zero, List.set_cons_succ, List.getElem_toArray, List.getElem_cons_succ, List.getElem_cons_zero]
          refine wpAnyH_take (i := 24) (v := ?gv25) rfl (by kernel_rfl) (by kernel_rfl) (by kernel_rfl) (fun _ _ _ h => h) (Or.inl ⟨by kernel_rfl, ?gy25⟩) (by assumption) ?gr25
          case gy25 => (intro w' hSw; (try dsimp only at hSw); go_simp; (try with_reducible rfl))
          try simp only [Act.put, List.setIfInBounds_toArray, List.set_cons_zero, List.set_cons_succ, List.getElem_toArray, List.getElem_cons_succ, List.getElem_cons_zero]
          refine wpAnyH_take (i := 25) (v := ?gv26) rfl (by kernel_rfl) (by kernel_rfl) (by kernel_rfl) (fun _ _ _ h => h) (Or.inl ⟨by kernel_rfl, ?gy26⟩) (by assumption) ?gr26
          case gy26 => (intro w' hSw; (try dsimp only at hSw); go_simp; (try with_reducible rfl))
          try simp only [Act.put, List.setIfInBounds_toArray, List.set_cons_zero, List.set_cons_succ, List.getElem_toArray, List.getElem_cons_succ, List.getElem_cons_zero]
          refine wpAnyH_ready (rs := [26]) (by kernel_rfl) (by simp) ?_
          refine AllReadyH.cons rfl (fun K hK => ?_) AllReadyH.nil
          go_simp
          (with_reducible refine hcall.mono ?_)
          rintro e u26 ⟨rfl, dd, rfl⟩
          have q26 := HPC.out dd
          clear hS
          dsimp only
          refine Shut.out hK _ _ (q26) (fun hS => ?_)
          try simp only [Act.put, List.setIfInBounds_toArray, List.set_cons_zero, List.set_cons_succ, List.getElem_toArray, List.getElem_cons_succ, List.getElem_cons_zero]
          refine wpAnyH_take (i := 27) (v := ?gv27) rfl (by kernel_rfl) (by kernel_rfl) (by kernel_rfl) (fun _ _ _ h => h) (Or.inl ⟨by kernel_rfl, ?gy27⟩) (by assumption) ?gr27
          case gy27 => (intro w' hSw; (try dsimp only at hSw); go_simp; (try with_reducible rfl))
          try simp only [Act.put, List.setIfInBounds_toArray, List.set_cons_zero, List.set_cons_succ, List.getElem_toArray, List.getElem_cons_succ, List.getElem_cons_zero]
          refine wpAnyH_take (i := 28) (v := ?gv28) rfl (by kernel_rfl) (by kernel_rfl) (by kernel_rfl) (fun _ _ _ h => h) (Or.inl ⟨by kernel_rfl, ?gy28⟩) (by assumption) ?gr28
          case gy28 => (intro w' hSw; (try dsimp only at hSw); go_simp; (try with_reducible rfl))
          try simp only [Act.put, List.setIfInBounds_toArray, List.set_cons_zero, List.set_cons_succ, List.getElem_toArray, List.getElem_cons_succ, List.getElem_cons_zero]
          refine wpAnyH_done (by kernel_rfl) (NoPanic.normal ?_) _
          have HBN : Hid (Below V.heap.size V (wr.drewN (1 + dd))) := below_drewN hBi.out (1 + dd)
          clear hcall v0 t0 p0 p1 r0 r1
          go_wp2
          go_roundw
          all_goals first
            | (case rel => exact ⟨j + 1, by omega, by go_num, HBN⟩)
            | (case rel => (repeat apply Exists.intro); exact ⟨⟨j + 1, by omega, by go_num, HBN⟩, rfl⟩)
            | (case measure => simp [intOf]; omega)
        · have hji : ¬ (j : Int) < (m : Int) := by omega
          have HBI : Hid (Below W0.heap.size W0 wr) := HBV.out.trans (hBi.out.mono HBV.out.size)
          clear t0 hBi
          go_wp2
          go_roundw
          all_goals first
            | (case rel => exact ⟨k + 1, by omega, by go_num, HBI⟩)
            | (case rel => (repeat apply Exists.intro); exact ⟨⟨k + 1, by omega, by go_num, HBI⟩, rfl⟩)
            | (case measure => simp [intOf]; omega)
    · have hki : ¬ (k : Int) < (n : Int) := by omega
      go_wp2
      go_ret
      exact ⟨rfl, by have h9 := HB0.out.trans (hB.out.mono HB0.out.size); first | exact h9 | (rw [← hH]; exact h9)⟩
end

section
open Go.RowKit
theorem rd_form {w : World} {ga : Option Addr} {n gc : Nat} {ys : List Int} (h : RowB w (.slice ga n gc) n ys) : Rd w ga ys := by
  obtain ⟨a, c, e, hr⟩ := RowB.form h
  simp only [Value.slice.injEq] at e
  rw [e.1]
  exact hr
end

section
open Go.RowKit
/-- A device that can be read, and its box. -/
structure DKq (W : World) (X : Nat) (va : Option Addr) (vn vc : Nat) (op : Int) (fa : Option Addr) (m fc : Nat) (dn : Bool) (qs : List BkR) (fs : List FtD) : Prop where
  c : CR W va vn qs
  f : FR W fa m fs
  b : Blk W X 29 #[.slice va vn vc, .int .i64 op, .slice fa m fc, .bool dn]
theorem DKq.keep {W W' : World} {X : Nat} {va : Option Addr} {vn vc : Nat} {op : Int} {fa : Option Addr} {m fc : Nat} {dn : Bool} {qs : List BkR} {fs : List FtD} (h : DKq W X va vn vc op fa m fc dn qs fs) (hb : Below W.heap.size W W') : DKq W' X va vn vc op fa m fc dn qs fs := ⟨h.c.keep hb, h.f.keep hb, h.b.keep hb⟩
theorem below_q {w w1 w2 : World} (h : Below w.heap.size w w1) (h2 : Below w1.heap.size w1 w2) : Below w.heap.size w w2 := h.trans (h2.mono h.size)
set_option maxRecDepth 100000 in
set_option maxHeartbeats 8000000 in
theorem walkPowers (a0 : Option Addr) (len0 cap0 : Nat) (zs : List Int) (w : World) (hn : zs.length = len0) (hr : Rd w a0 zs) (hb : Byt zs) (hg : EtCell w) :
    Calls Tryz.prog 5 #[.slice a0 len0 cap0] w fun e w' => e = .returned (.bool true) ∧ Below w.heap.size w w' := by
  by_cases hbig : 1048576 < len0
  · have hd : decide ((1048576 : Int) < (len0 : Int)) = true := by simp; omega
    go_enter Tryz.func5, Tryz.ntmps5
    go_wp2_with fail
    refine (big_any a0 len0 cap0 w).mono ?_
    rintro e w1 ⟨rfl, hw⟩
    obtain rfl := hw.symm
    rw [hd]
    go_wp2
    go_ret
    exact ⟨rfl, Below.refl _ _⟩
  have hd : decide ((1048576 : Int) < (len0 : Int)) = false := by simp; omega
  have hcL := drawPowerUp_any a0 len0 cap0 zs w hn (by omega) hr hb
  have HDN : Hid (∀ W : World, Below w.heap.size w W → Calls Tryz.prog 23 #[.slice a0 len0 cap0] W (DrawnDN W)) := fun W hW => drawDevNew_any a0 len0 cap0 zs W hn (by omega) (hr.keep hW) hb
  have HG : Hid (EtCell w) := hg
  clear hn hr hb hg
  go_enter Tryz.func5, Tryz.ntmps5
  go_wp2_with fail
  refine (big_any a0 len0 cap0 w).mono ?_
  rintro e w1 ⟨rfl, hw⟩
  obtain rfl := hw.symm
  rw [hd]
  clear hd hbig
  go_wp2_with fail
  refine hcL.mono ?_
  rintro e w1 ⟨va, vn, vc, op, fa, m, fc, dn, qs, fs, rfl, ac, hpv, af, hm, b1⟩
  have b2 : Below w1.heap.size w1 (w1.alloc (.cells #[.slice va vn vc, .int .i64 op, .slice fa m fc, .bool dn] 29)) := (Below.refl _ _).alloc (Nat.le_refl _) _
  have d2 : DKq (w1.alloc (.cells #[.slice va vn vc, .int .i64 op, .slice fa m fc, .bool dn] 29)) w1.heap.size va vn vc op fa m fc dn qs fs := ⟨ac.cr.keep b2, FR.keep (af w1 (fun _ _ _ => rfl)) b2, Blk.new w1 _ _⟩
  have B2 := below_q b1 b2
  obtain ⟨ds, hds⟩ : ∃ d, qs.map BkR.D = d := ⟨_, rfl⟩
  have HDS : Hid (qs.map BkR.D = ds) := hds
  have htot : totB ds ≤ 1048576 := by rw [← hds]; exact d2.c.tot
  have hP := powerUpI va vn vc qs op fa m fc fs dn _ d2.c d2.f
  rw [hds] at hP
  obtain ⟨q0, q1, q2, q3⟩ := d2.b.dev
  clear hcL hds ac af b1 b2
  go_wp2_with fail
  obtain ⟨W2, hW2⟩ : ∃ W, w1.alloc (.cells #[.slice va vn vc, .int .i64 op, .slice fa m fc, .bool dn] 29) = W := ⟨_, rfl⟩
  obtain ⟨X, hX⟩ : ∃ X, w1.heap.size = X := ⟨_, rfl⟩
  rw [hW2, hX] at d2
  rw [hW2] at B2 hP
  try rw [hW2]
  try rw [hX]
  clear hW2 hX q0 q1 q2 q3
  refine hP.mono ?_
  rintro e w3 ⟨a3, n3, c3, fa3, m3, fc3, qs3, rfl, hnd3, hql3, b3⟩
  dsimp only at hnd3 ⊢
  have d3 := d2.keep b3
  have B3 := below_q B2 b3
  have hfl := d2.f.len
  have hD3 : qs3.map BkR.D = ds := hnd3.bs.D
  have c3' : CR w3 a3 n3 qs3 := hnd3.cr hql3 htot
  have f3' : FR w3 fa3 m3 fs := OwnFa.fr hnd3.fs (by have := OwnE.len hnd3.fs; omega)
  have b4 : Below w3.heap.size w3 (w3.alloc (.cells #[.slice a3 n3 c3, .int .i64 op, .slice fa3 m3 fc3, .bool false] 29)) := (Below.refl _ _).alloc (Nat.le_refl _) _
  have x4 : DKq (w3.alloc (.cells #[.slice a3 n3 c3, .int .i64 op, .slice fa3 m3 fc3, .bool false] 29)) w3.heap.size a3 n3 c3 op fa3 m3 fc3 false qs3 fs := ⟨c3'.keep b4, f3'.keep b4, Blk.new w3 _ _⟩
  have d4 := d3.keep b4
  have B4 := below_q B3 b4
  clear d2 d3 B2 B3 b3 b4 hnd3 hql3 c3' f3' hP
  go_upto_region 5 with fail
  obtain ⟨W4, hW4⟩ : ∃ W, w3.alloc (.cells #[.slice a3 n3 c3, .int .i64 op, .slice fa3 m3 fc3, .bool false] 29) = W := ⟨_, rfl⟩
  obtain ⟨X2, hX2⟩ : ∃ X, w3.heap.size = X := ⟨_, rfl⟩
  rw [hW4, hX2] at x4
  rw [hW4] at d4 B4
  try rw [hW4]
  try rw [hX2]
  clear hW4 hX2
  obtain ⟨q0, q1, q2, q3⟩ := x4.b.dev
  have b5 : Below W4.heap.size W4 (W4.alloc (.cells #[.slice a3 n3 c3, .int .i64 op, .slice fa3 m3 fc3, .bool false] 29)) := (Below.refl _ _).alloc (Nat.le_refl _) _
  have z5 := Blk.new W4 29 #[.slice a3 n3 c3, .int .i64 op, .slice fa3 m3 fc3, .bool false]
  have hb6 := b5.setCell (p := ⟨W4.heap.size, 3, none⟩) (Nat.le_refl _) (.bool true)
  go_upto_region 6 with fail
  obtain ⟨W5, hW5⟩ : ∃ W, W4.alloc (.cells #[.slice a3 n3 c3, .int .i64 op, .slice fa3 m3 fc3, .bool false] 29) = W := ⟨_, rfl⟩
  rw [hW5] at z5 hb6
  try rw [hW5]
  clear hW5 q0 q1 q2 q3 b5
  have x6 := x4.keep hb6
  have d6 := d4.keep hb6
  have B6 := below_q B4 hb6
  obtain ⟨X3, hX3⟩ : ∃ X, W4.heap.size = X := ⟨_, rfl⟩
  rw [hX3] at z5 x6 d6 B6
  try rw [hX3]
  clear hX3 hb6 x4 d4 B4
  have g3 := z5.frozen 3
  have z6 := z5.set 3 (.bool true)
  simp at z6
  obtain ⟨q0, q1, q2, q3⟩ := z5.dev
  go_upto_region 7 with fail
  obtain ⟨W6, hW6⟩ : ∃ W, W5.setCell ⟨X3, 3, none⟩ (.bool true) = W := ⟨_, rfl⟩
  rw [hW6] at x6 d6 B6 z6
  try rw [hW6]
  clear hW6 q0 q1 q2 q3 g3 z5
  have hr1 : Rd (W6.alloc (.cells #[.int .u8 1] 5)) (some ⟨W6.heap.size, 0, none⟩) [1] := rd_form (rowB_one W6 1)
  have b7 : Below W6.heap.size W6 (W6.alloc (.cells #[.int .u8 1] 5)) := (Below.refl _ _).alloc (Nat.le_refl _) _
  have x7 := x6.keep b7
  have d7 := d6.keep b7
  have z7 := z6.keep b7
  have B7 := below_q B6 b7
  have CP0 := devPrI a3 n3 c3 qs3 op fa3 m3 fc3 fs true 0 W6.heap.size 1 1 [1] _ x7.c x7.f rfl ⟨by omega, by omega⟩ hr1 (EtCell.keep HG.out B7)
  have CE0 := fun (W : World) (hc : CR W a3 n3 qs3) (hf : FR W fa3 m3 fs) (hE : EtCell W) => devErI a3 n3 c3 qs3 op fa3 m3 fc3 fs true 0 W hc hf hE
  rw [hD3, off_code] at CP0
  obtain ⟨D7, hD7⟩ : ∃ D : DvD, (⟨outDs (evCode ds op fs true (codeP true ds 0 1)) (faD op fs) ds (progAt ds (0 : Int).toNat [1]) (badD ds (0 : Int).toNat) (fun t => progAt ds (0 : Int).toNat (([1] : List Int).take t.toNat)), outOps (evCode ds op fs true (codeP true ds 0 1)) op, fs, outDown (evCode ds op fs true (codeP true ds 0 1)) (faD op fs) true⟩ : DvD) = D := ⟨_, rfl⟩
  rw [hD7] at CP0
  obtain ⟨D8, hD8⟩ : ∃ D : DvD, (⟨outDs (evCode ds op fs true (codeE true ds 0)) (faD op fs) ds (eraseAt ds (0 : Int).toNat) (badD ds (0 : Int).toNat) (tornD ds (0 : Int).toNat), outOps (evCode ds op fs true (codeE true ds 0)) op, fs, outDown (evCode ds op fs true (codeE true ds 0)) (faD op fs) true⟩ : DvD) = D := ⟨_, rfl⟩
  rw [hD3, off_code, hD8] at CE0
  obtain ⟨cc, hcc⟩ : ∃ c, (if devB ds op fs = true then (10 : Int) else 1) = c := ⟨_, rfl⟩
  rw [hcc] at CP0 CE0
  have HCC : Hid ((if devB ds op fs = true then (10 : Int) else 1) = cc) := hcc
  obtain ⟨q0, q1, q2, q3⟩ := z6.dev
  clear hD7 hD8 hcc x6 d6 B6 hr1 b7
  go_wp2_with fail
  obtain ⟨W7, hW7⟩ : ∃ W, W6.alloc (.cells #[.int .u8 1] 5) = W := ⟨_, rfl⟩
  rw [hW7] at CP0 x7 d7 z7 B7
  try rw [hW7]
  clear hW7 q0 q1 q2 q3 z6
  refine CP0.mono ?_
  rintro e w8 ⟨a8, n8, c8, fa8, m8, fc8, qs8, rfl, _, _, b8⟩
  obtain ⟨⟨o8, hO8⟩, ⟨t8, ht8⟩⟩ : (∃ o, D7.ops = o) ∧ ∃ t, D7.down = t := ⟨⟨_, rfl⟩, ⟨_, rfl⟩⟩
  rw [hO8, ht8]
  have b9 : Below w8.heap.size w8 (w8.alloc (.cells #[.slice a8 n8 c8, .int .i64 o8, .slice fa8 m8 fc8, .bool t8] 29)) := (Below.refl _ _).alloc (Nat.le_refl _) _
  have x9 := (x7.keep b8).keep b9
  have d9 := (d7.keep b8).keep b9
  have z9 := (z7.keep b8).keep b9
  have B9 := below_q (below_q B7 b8) b9
  clear CP0 x7 d7 z7 B7 b8 b9 hO8 ht8
  obtain ⟨q0, q1, q2, q3⟩ := z9.dev
  go_wp2_with fail
  obtain ⟨W9, hW9⟩ : ∃ W, w8.alloc (.cells #[.slice a8 n8 c8, .int .i64 o8, .slice fa8 m8 fc8, .bool t8] 29) = W := ⟨_, rfl⟩
  rw [hW9] at x9 d9 z9 B9
  try rw [hW9]
  clear hW9 q0 q1 q2 q3
  refine (CE0 W9 x9.c x9.f (EtCell.keep HG.out B9)).mono ?_
  rintro e w10 ⟨a10, n10, c10, fa10, m10, fc10, qs10, rfl, _, _, b10⟩
  obtain ⟨⟨o10, hO10⟩, ⟨t10, ht10⟩⟩ : (∃ o, D8.ops = o) ∧ ∃ t, D8.down = t := ⟨⟨_, rfl⟩, ⟨_, rfl⟩⟩
  rw [hO10, ht10]
  have b11 : Below w10.heap.size w10 (w10.alloc (.cells #[.slice a10 n10 c10, .int .i64 o10, .slice fa10 m10 fc10, .bool t10] 29)) := (Below.refl _ _).alloc (Nat.le_refl _) _
  have x11 := (x9.keep b10).keep b11
  have d11 := (d9.keep b10).keep b11
  have B11 := below_q (below_q B9 b10) b11
  clear CE0 x9 d9 z9 B9 b10 b11 hO10 ht10
  go_wp2_with fail
  obtain ⟨W11, hW11⟩ : ∃ W, w10.alloc (.cells #[.slice a10 n10 c10, .int .i64 o10, .slice fa10 m10 fc10, .bool t10] 29) = W := ⟨_, rfl⟩
  rw [hW11] at x11 d11 B11
  try rw [hW11]
  clear hW11
  refine (HDN.out W11 B11).mono ?_
  rintro e w12 ⟨xN, fN, mN, fcN, fsN, rfl, hxN, hfN, hmN, b12⟩
  have x12 := x11.keep b12
  have d12 := d11.keep b12
  have B12 := below_q B11 b12
  clear x11 d11 B11 b12
  have hnN : Hid (devB (devN xN fsN).ds (devN xN fsN).ops (devN xN fsN).fs = decide (0 < (devN xN fsN).ds.length)) := devN_ok xN fsN
  have htN := devN_tot xN fsN
  have hlN := devN_fs xN fsN
  have CI := devNewI xN fN mN fcN fsN w12 hfN
  have CS := fun (W : World) (h : FR W fN mN fsN) => devNewS xN fN mN fcN fsN W h
  obtain ⟨DN, hDN⟩ : ∃ D, devN xN fsN = D := ⟨_, rfl⟩
  rw [hDN] at hnN htN hlN CI CS
  obtain ⟨dsN, oN, fsM, tN⟩ := DN
  dsimp only at hnN htN hlN
  have HCS : Hid _ := CS
  clear hDN CS
  go_wp2_with fail
  refine CI.mono ?_
  rintro e w13 ⟨aN, nN, cN, fy, my, fcy, qsN, rfl, hndN, hqlN, b13⟩
  dsimp only at hndN ⊢
  have hDs : qsN.map BkR.D = dsN := hndN.bs.D
  have cN' : CR w13 aN nN qsN := hndN.cr hqlN htN
  have fN' : FR w13 fy my fsM := OwnFa.fr hndN.fs (by have h1 := OwnE.len hndN.fs; have h2 := hfN.len; omega)
  have b14 : Below w13.heap.size w13 (w13.alloc (.cells #[.slice aN nN cN, .int .i64 oN, .slice fy my fcy, .bool tN] 29)) := (Below.refl _ _).alloc (Nat.le_refl _) _
  have y14 : DKq (w13.alloc (.cells #[.slice aN nN cN, .int .i64 oN, .slice fy my fcy, .bool tN] 29)) w13.heap.size aN nN cN oN fy my fcy tN qsN fsM := ⟨cN'.keep b14, fN'.keep b14, Blk.new w13 _ _⟩
  have hf14 := (hfN.keep b13).keep b14
  have x14 := (x12.keep b13).keep b14
  have d14 := (d12.keep b13).keep b14
  have B14 := below_q (below_q B12 b13) b14
  clear CI x12 d12 B12 b13 b14 hndN hqlN hfN cN' fN' htN hlN
  obtain ⟨q0, q1, q2, q3⟩ := d14.b.dev
  go_wp2_with fail
  obtain ⟨W14, hW14⟩ : ∃ W, w13.alloc (.cells #[.slice aN nN cN, .int .i64 oN, .slice fy my fcy, .bool tN] 29) = W := ⟨_, rfl⟩
  obtain ⟨Y, hY⟩ : ∃ X, w13.heap.size = X := ⟨_, rfl⟩
  rw [hW14, hY] at y14
  rw [hW14] at hf14 x14 d14 B14
  try rw [hW14]
  try rw [hY]
  clear hW14 hY q0 q1 q2 q3
  have CF := faultAtI va vn vc op fa m fc fs dn W14 d14.f
  have CG := fun (W : World) (h : FR W fa m fs) => faultAtS va vn vc op fa m fc fs dn W h
  unfold FaA at CF CG
  obtain ⟨⟨e0, he0⟩, ⟨e1, he1⟩, ⟨e2, he2⟩, ⟨eb, heb⟩⟩ : (∃ z, ((faD op fs).getD ftZ).tm = z) ∧ (∃ z, ((faD op fs).getD ftZ).kd = z) ∧ (∃ z, ((faD op fs).getD ftZ).kp = z) ∧ ∃ z, (faD op fs).isSome = z := ⟨⟨_, rfl⟩, ⟨_, rfl⟩, ⟨_, rfl⟩, ⟨_, rfl⟩⟩
  rw [he0, he1, he2, heb] at CF CG
  clear he0 he1 he2 heb
  refine CF.mono ?_
  rintro e w15 ⟨rfl, b15⟩
  have b16 : Below w15.heap.size w15 (w15.alloc (.cells #[.int .i64 e0, .int .i64 e1, .int .i64 e2] 51)) := (Below.refl _ _).alloc (Nat.le_refl _) _
  have u16 := Blk.new w15 51 #[.int .i64 e0, .int .i64 e1, .int .i64 e2]
  have y16 := (y14.keep b15).keep b16
  have hf16 := (hf14.keep b15).keep b16
  have x16 := (x14.keep b15).keep b16
  have d16 := (d14.keep b15).keep b16
  have B16 := below_q (below_q B14 b15) b16
  clear CF y14 hf14 x14 d14 B14 b15 b16
  obtain ⟨q0, q1, q2, q3⟩ := d16.b.dev
  go_wp2_with fail
  obtain ⟨W16, hW16⟩ : ∃ W, w15.alloc (.cells #[.int .i64 e0, .int .i64 e1, .int .i64 e2] 51) = W := ⟨_, rfl⟩
  obtain ⟨F1, hF1⟩ : ∃ X, w15.heap.size = X := ⟨_, rfl⟩
  rw [hW16] at u16 y16 hf16 x16 d16 B16
  rw [hF1] at u16
  try rw [hW16]
  try rw [hF1]
  clear hW16 hF1 q0 q1 q2 q3
  refine (CG W16 d16.f).mono ?_
  rintro e w17 ⟨rfl, b17⟩
  have b18 : Below w17.heap.size w17 (w17.alloc (.cells #[.int .i64 e0, .int .i64 e1, .int .i64 e2] 51)) := (Below.refl _ _).alloc (Nat.le_refl _) _
  have t18 := Blk.new w17 51 #[.int .i64 e0, .int .i64 e1, .int .i64 e2]
  have u18 := (u16.keep b17).keep b18
  have y18 := (y16.keep b17).keep b18
  have hf18 := (hf16.keep b17).keep b18
  have x18 := (x16.keep b17).keep b18
  have d18 := (d16.keep b17).keep b18
  have B18 := below_q (below_q B16 b17) b18
  clear CG u16 y16 hf16 x16 d16 B16 b17 b18
  go_upto_region 13 with fail
  obtain ⟨w18, hW18⟩ : ∃ W, w17.alloc (.cells #[.int .i64 e0, .int .i64 e1, .int .i64 e2] 51) = W := ⟨_, rfl⟩
  obtain ⟨F2, hF2⟩ : ∃ X, w17.heap.size = X := ⟨_, rfl⟩
  rw [hW18] at t18 u18 y18 hf18 x18 d18 B18
  rw [hF2] at t18
  try rw [hW18]
  try rw [hF2]
  clear hW18 hF2
  obtain ⟨Bd, hBd⟩ : ∃ b, devB ds op fs = b := ⟨_, rfl⟩
  have hBB : (Bd != Bd) = false := by simp
  have hEE : (eb != eb) = false := by simp
  have C1 : Hid (∀ W : World, Below w18.heap.size w18 W → Calls Tryz.prog 17 #[.agg #[.slice va vn vc, .int .i64 op, .slice fa m fc, .bool dn]] W fun e w' => e = .returned (.bool Bd) ∧ Below W.heap.size W w') := fun W hW => by
    have := devOkI va vn vc qs op fa m fc fs dn W (d18.keep hW).c (d18.keep hW).f
    rw [HDS.out, hBd] at this
    exact this
  have C2 : Hid (∀ W : World, Below w18.heap.size w18 W → Calls Tryz.prog 27 #[.agg #[.slice va vn vc, .int .i64 op, .slice fa m fc, .bool dn]] W fun e w' => e = .returned (.bool Bd) ∧ Below W.heap.size W w') := fun W hW => by
    have := devOkS va vn vc qs op fa m fc fs dn W (d18.keep hW).c (d18.keep hW).f
    rw [HDS.out, hBd] at this
    exact this
  have hdl : dsN.length = nN := by rw [← hDs, List.length_map]; exact y18.c.len
  have C3 : Hid (∀ W : World, Below w18.heap.size w18 W → Calls Tryz.prog 28 #[.int .i64 xN, .slice fN mN fcN] W fun e w' => ∃ (aM : Option Addr) (cM : Nat) (oM : Int) (fM : Option Addr) (mM fcM : Nat) (tM : Bool), e = .returned (.agg #[.slice aM nN cM, .int .i64 oM, .slice fM mM fcM, .bool tM]) ∧ Below W.heap.size W w') := fun W hW => by
    refine (HCS.out W (hf18.keep hW)).mono ?_
    rintro e w' ⟨a, n, c, fa, m, fc, q, rfl, hnd, hql, hb⟩
    have hn : n = nN := by
      have h1 : q.map BkR.D = dsN := hnd.bs.D
      rw [← hdl, ← h1, List.length_map, hql]
    subst hn
    exact ⟨a, c, _, fa, m, fc, _, rfl, hb⟩
  have C4 : Hid (∀ W : World, Below w18.heap.size w18 W → Calls Tryz.prog 17 #[.agg #[.slice aN nN cN, .int .i64 oN, .slice fy my fcy, .bool tN]] W fun e w' => e = .returned (.bool (decide (0 < nN))) ∧ Below W.heap.size W w') := fun W hW => by
    have := devOkI aN nN cN qsN oN fy my fcy fsM tN W (y18.keep hW).c (y18.keep hW).f
    rw [hDs, hnN.out, hdl] at this
    exact this
  have HX : Hid (∀ W : World, Below w18.heap.size w18 W → (fun W : World => W.cell? ⟨X, 0, none⟩ = some (.slice va vn vc) ∧ W.cell? ⟨X, 1, none⟩ = some (.int .i64 op) ∧ W.cell? ⟨X, 2, none⟩ = some (.slice fa m fc) ∧ W.cell? ⟨X, 3, none⟩ = some (.bool dn) ∧ W.cell? ⟨Y, 0, none⟩ = some (.slice aN nN cN) ∧ W.cell? ⟨Y, 1, none⟩ = some (.int .i64 oN) ∧ W.cell? ⟨Y, 2, none⟩ = some (.slice fy my fcy) ∧ W.cell? ⟨Y, 3, none⟩ = some (.bool tN) ∧ W.cell? ⟨F1, 0, none⟩ = some (.int .i64 e0) ∧ W.cell? ⟨F1, 1, none⟩ = some (.int .i64 e1) ∧ W.cell? ⟨F1, 2, none⟩ = some (.int .i64 e2) ∧ W.cell? ⟨F2, 0, none⟩ = some (.int .i64 e0) ∧ W.cell? ⟨F2, 1, none⟩ = some (.int .i64 e1) ∧ W.cell? ⟨F2, 2, none⟩ = some (.int .i64 e2)) W) := fun W hW => by
    obtain ⟨i0, i1, i2, i3⟩ := (d18.keep hW).b.dev
    obtain ⟨j0, j1, j2, j3⟩ := (y18.keep hW).b.dev
    obtain ⟨k0, k1, k2⟩ := (u18.keep hW).thr
    obtain ⟨l0, l1, l2⟩ := (t18.keep hW).thr
    exact ⟨i0, i1, i2, i3, j0, j1, j2, j3, k0, k1, k2, l0, l1, l2⟩
  obtain ⟨i0, i1, i2, i3, j0, j1, j2, j3, k0, k1, k2, l0, l1, l2⟩ := HX.out w18 (Below.refl _ _)
  have HD18 : Hid _ := d18
  have HX18 : Hid _ := x18
  have HB18 : Hid _ := B18
  have HBD : Hid (devB ds op fs = Bd) := hBd
  clear y18 hf18 x18 d18 B18 u18 t18 hDs hdl hBd
  refine wp_region_noPanic ?_
  refine wp_region_held_drew (S := fun W : World => W.cell? ⟨X, 0, none⟩ = some (.slice va vn vc) ∧ W.cell? ⟨X, 1, none⟩ = some (.int .i64 op) ∧ W.cell? ⟨X, 2, none⟩ = some (.slice fa m fc) ∧ W.cell? ⟨X, 3, none⟩ = some (.bool dn) ∧ W.cell? ⟨Y, 0, none⟩ = some (.slice aN nN cN) ∧ W.cell? ⟨Y, 1, none⟩ = some (.int .i64 oN) ∧ W.cell? ⟨Y, 2, none⟩ = some (.slice fy my fcy) ∧ W.cell? ⟨Y, 3, none⟩ = some (.bool tN) ∧ W.cell? ⟨F1, 0, none⟩ = some (.int .i64 e0) ∧ W.cell? ⟨F1, 1, none⟩ = some (.int .i64 e1) ∧ W.cell? ⟨F1, 2, none⟩ = some (.int .i64 e2) ∧ W.cell? ⟨F2, 0, none⟩ = some (.int .i64 e0) ∧ W.cell? ⟨F2, 1, none⟩ = some (.int .i64 e1) ∧ W.cell? ⟨F2, 2, none⟩ = some (.int .i64 e2)) (by kernel_rfl) (by go_keep) (fun hS => ?_)
  refine wpAnyH_take (i := 0) (v := ?v1) rfl (by kernel_rfl) (by kernel_rfl) (by kernel_rfl) (fun _ _ _ h => h) (Or.inl ⟨by kernel_rfl, ?y1⟩) (by assumption) ?r1
  case y1 => (intro w' hSw; (try dsimp only at hSw); go_simp; (try with_reducible rfl))
  try simp only [Act.put, List.setIfInBounds_toArray, List.set_cons_zero, List.set_cons_succ, List.getElem_toArray, List.getElem_cons_zero]
  refine wpAnyH_take (i := 1) (v := ?v2) rfl (by kernel_rfl) (by kernel_rfl) (by kernel_rfl) (fun _ _ _ h => h) (Or.inl ⟨by kernel_rfl, ?y2⟩) (by assumption) ?r2
  case y2 => (intro w' hSw; (try dsimp only at hSw); go_simp; (try with_reducible rfl))
  try simp only [Act.put, List.setIfInBounds_toArray, List.set_cons_zero, List.set_cons_succ, List.getElem_toArray, List.getElem_cons_succ, List.getElem_cons_zero]
  refine wpAnyH_take (i := 2) (v := ?v3) rfl (by kernel_rfl) (by kernel_rfl) (by kernel_rfl) (fun _ _ _ h => h) (Or.inl ⟨by kernel_rfl, ?y3⟩) (by assumption) ?r3
  case y3 => (intro w' hSw; (try dsimp only at hSw); go_simp; (try with_reducible rfl))
  try simp only [Act.put, List.setIfInBounds_toArray, List.set_cons_zero, List.set_cons_succ, List.getElem_toArray, List.getElem_cons_succ, List.getElem_cons_zero]
  refine wpAnyH_take (i := 3) (v := ?v4) rfl (by kernel_rfl) (by kernel_rfl) (by kernel_rfl) (fun _ _ _ h => h) (Or.inl ⟨by kernel_rfl, ?y4⟩) (by assumption) ?r4
  case y4 => (intro w' hSw; (try dsimp only at hSw); go_simp; (try with_reducible rfl))
  try simp only [Act.put, List.setIfInBounds_toArray, List.set_cons_zero, List.set_cons_succ, List.getElem_toArray, List.getElem_cons_succ, List.getElem_cons_zero]
  refine wpAnyH_take (i := 4) (v := ?v5) rfl (by kernel_rfl) (by kernel_rfl) (by kernel_rfl) (fun _ _ _ h => h) (Or.inl ⟨by kernel_rfl, ?y5⟩) (by assumption) ?r5
  case y5 => (intro w' hSw; (try dsimp only at hSw); go_simp; (try with_reducible rfl))
  try simp only [Act.put, List.setIfInBounds_toArray, List.set_cons_zero, List.set_cons_succ, List.getElem_toArray, List.getElem_cons_succ, List.getElem_cons_zero]
  refine wpAnyH_take (i := 5) (v := ?v6) rfl (by kernel_rfl) (by kernel_rfl) (by kernel_rfl) (fun _ _ _ h => h) (Or.inl ⟨by kernel_rfl, ?y6⟩) (by assumption) ?r6
  case y6 => (intro w' hSw; (try dsimp only at hSw); go_simp; (try with_reducible rfl))
  try simp only [Act.put, List.setIfInBounds_toArray, List.set_cons_zero, List.set_cons_succ, List.getElem_toArray, List.getElem_cons_succ, List.getElem_cons_zero]
  refine wpAnyH_take (i := 6) (v := ?v7) rfl (by kernel_rfl) (by kernel_rfl) (by kernel_rfl) (fun _ _ _ h => h) (Or.inl ⟨by kernel_rfl, ?y7⟩) (by assumption) ?r7
  case y7 => (intro w' hSw; (try dsimp only at hSw); go_simp; (try with_reducible rfl))
  try simp only [Act.put, List.setIfInBounds_toArray, List.set_cons_zero, List.set_cons_succ, List.getElem_toArray, List.getElem_cons_succ, List.getElem_cons_zero]
  refine wpAnyH_take (i := 7) (v := ?v8) rfl (by kernel_rfl) (by kernel_rfl) (by kernel_rfl) (fun _ _ _ h => h) (Or.inl ⟨by kernel_rfl, ?y8⟩) (by assumption) ?r8
  case y8 => (intro w' hSw; (try dsimp only at hSw); go_simp; (try with_reducible rfl))
  try simp only [Act.put, List.setIfInBounds_toArray, List.set_cons_zero, List.set_cons_succ, List.getElem_toArray, List.getElem_cons_succ, List.getElem_cons_zero]
  refine wpAnyH_take (i := 8) (v := ?v9) rfl (by kernel_rfl) (by kernel_rfl) (by kernel_rfl) (fun _ _ _ h => h) (Or.inl ⟨by kernel_rfl, ?y9⟩) (by assumption) ?r9
  case y9 => (intro w' hSw; (try dsimp only at hSw); go_simp; (try with_reducible rfl))
  try simp only [Act.put, List.setIfInBounds_toArray, List.set_cons_zero, List.set_cons_succ, List.getElem_toArray, List.getElem_cons_succ, List.getElem_cons_zero]
  refine wpAnyH_take (i := 9) (v := ?v10) rfl (by kernel_rfl) (by kernel_rfl) (by kernel_rfl) (fun _ _ _ h => h) (Or.inl ⟨by kernel_rfl, ?y10⟩) (by assumption) ?r10
  case y10 => (intro w' hSw; (try dsimp only at hSw); go_simp; (try with_reducible rfl))
  try simp only [Act.put, List.setIfInBounds_toArray, List.set_cons_zero, List.set_cons_succ, List.getElem_toArray, List.getElem_cons_succ, List.getElem_cons_zero]
  refine wpAnyH_take (i := 11) (v := ?v11) rfl (by kernel_rfl) (by kernel_rfl) (by kernel_rfl) (fun _ _ _ h => h) (Or.inl ⟨by kernel_rfl, ?y11⟩) (by assumption) ?r11
  case y11 => (intro w' hSw; (try dsimp only at hSw); go_simp; (try with_reducible rfl))
  try simp only [Act.put, List.setIfInBounds_toArray, List.set_cons_zero, List.set_cons_succ, List.getElem_toArray, List.getElem_cons_succ, List.getElem_cons_zero]
  refine wpAnyH_ready (rs := [10]) (by kernel_rfl) (by simp) ?_
  refine AllReadyH.cons rfl (fun K hK => ?_) AllReadyH.nil
  go_simp
  go_at_call 17
  (with_reducible refine (C1.out w18.drew (Below.refl _ w18).drew).mono ?_)
  rintro e v1 ⟨rfl, cv1⟩
  have Dv1 := below_q (Below.refl _ w18).drew cv1
  clear hS
  dsimp only
  refine Shut.out hK _ _ (HX.out v1 Dv1) (fun hS => ?_)
  try simp only [Act.put, List.setIfInBounds_toArray, List.set_cons_zero, List.set_cons_succ, List.getElem_toArray, List.getElem_cons_succ, List.getElem_cons_zero]
  refine wpAnyH_ready (rs := [12]) (by kernel_rfl) (by simp) ?_
  refine AllReadyH.cons rfl (fun K hK => ?_) AllReadyH.nil
  go_simp
  go_at_call 27
  (with_reducible refine (C2.out v1 Dv1).mono ?_)
  rintro e v2 ⟨rfl, cv2⟩
  have Dv2 := below_q Dv1 cv2
  clear hS
  dsimp only
  refine Shut.out hK _ _ (HX.out v2 Dv2) (fun hS => ?_)
  try simp only [Act.put, List.setIfInBounds_toArray, List.set_cons_zero, List.set_cons_succ, List.getElem_toArray, List.getElem_cons_succ, List.getElem_cons_zero]
  refine wpAnyH_take (i := 13) (v := ?v12) rfl (by kernel_rfl) (by kernel_rfl) (by kernel_rfl) (fun _ _ _ h => h) (Or.inl ⟨by kernel_rfl, ?y12⟩) (by assumption) ?r12
  case y12 => (intro w' hSw; (try dsimp only at hSw); go_simp; (try with_reducible rfl))
  try simp only [Act.put, List.setIfInBounds_toArray, List.set_cons_zero, List.set_cons_succ, List.getElem_toArray, List.getElem_cons_succ, List.getElem_cons_zero]
  refine wpAnyH_take (i := 14) (v := ?v13) rfl (by kernel_rfl) (by kernel_rfl) (by kernel_rfl) (fun _ _ _ h => h) (Or.inl ⟨by kernel_rfl, ?y13⟩) (by assumption) ?r13
  case y13 => (intro w' hSw; (try dsimp only at hSw); go_simp; (try with_reducible rfl))
  try simp only [Act.put, List.setIfInBounds_toArray, List.set_cons_zero, List.set_cons_succ, List.getElem_toArray, List.getElem_cons_succ, List.getElem_cons_zero]
  refine wpAnyH_take (i := 15) (v := ?v14) rfl (by kernel_rfl) (by kernel_rfl) (by kernel_rfl) (fun _ _ _ h => h) (Or.inl ⟨by kernel_rfl, ?y14⟩) (by assumption) ?r14
  case y14 => (intro w' hSw; (try dsimp only at hSw); go_simp; (try with_reducible rfl))
  try simp only [Act.put, List.setIfInBounds_toArray, List.set_cons_zero, List.set_cons_succ, List.getElem_toArray, List.getElem_cons_succ, List.getElem_cons_zero]
  refine wpAnyH_take (i := 16) (v := ?v15) rfl (by kernel_rfl) (by kernel_rfl) (by kernel_rfl) (fun _ _ _ h => h) (Or.inl ⟨by kernel_rfl, ?y15⟩) (by assumption) ?r15
  case y15 => (intro w' hSw; (try dsimp only at hSw); go_simp; (try with_reducible rfl))
  try simp only [Act.put, List.setIfInBounds_toArray, List.set_cons_zero, List.set_cons_succ, List.getElem_toArray, List.getElem_cons_succ, List.getElem_cons_zero]
  refine wpAnyH_take (i := 17) (v := ?v16) rfl (by kernel_rfl) (by kernel_rfl) (by kernel_rfl) (fun _ _ _ h => h) (Or.inl ⟨by kernel_rfl, ?y16⟩) (by assumption) ?r16
  case y16 => (intro w' hSw; (try dsimp only at hSw); go_simp; (try with_reducible rfl))
  try simp only [Act.put, List.setIfInBounds_toArray, List.set_cons_zero, List.set_cons_succ, List.getElem_toArray, List.getElem_cons_succ, List.getElem_cons_zero]
  refine wpAnyH_take (i := 18) (v := ?v17) rfl (by kernel_rfl) (by kernel_rfl) (by kernel_rfl) (fun _ _ _ h => h) (Or.inl ⟨by kernel_rfl, ?y17⟩) (by assumption) ?r17
  case y17 => (intro w' hSw; (try dsimp only at hSw); go_simp; (try with_reducible rfl))
  try simp only [Act.put, List.setIfInBounds_toArray, List.set_cons_zero, List.set_cons_succ, List.getElem_toArray, List.getElem_cons_succ, List.getElem_cons_zero]
  refine wpAnyH_take (i := 19) (v := ?v18) rfl (by kernel_rfl) (by kernel_rfl) (by kernel_rfl) (fun _ _ _ h => h) (Or.inl ⟨by kernel_rfl, ?y18⟩) (by assumption) ?r18
  case y18 => (intro w' hSw; (try dsimp only at hSw); go_simp; (try with_reducible rfl))
  try simp only [Act.put, List.setIfInBounds_toArray, List.set_cons_zero, List.set_cons_succ, List.getElem_toArray, List.getElem_cons_succ, List.getElem_cons_zero]
  refine wpAnyH_take (i := 20) (v := ?v19) rfl (by kernel_rfl) (by kernel_rfl) (by kernel_rfl) (fun _ _ _ h => h) (Or.inl ⟨by kernel_rfl, ?y19⟩) (by assumption) ?r19
  case y19 => (intro w' hSw; (try dsimp only at hSw); go_simp; (try with_reducible rfl))
  try simp only [Act.put, List.setIfInBounds_toArray, List.set_cons_zero, List.set_cons_succ, List.getElem_toArray, List.getElem_cons_succ, List.getElem_cons_zero]
  refine wpAnyH_take (i := 21) (v := ?v20) rfl (by kernel_rfl) (by kernel_rfl) (by kernel_rfl) (fun _ _ _ h => h) (Or.inl ⟨by kernel_rfl, ?y20⟩) (by assumption) ?r20
  case y20 => (intro w' hSw; (try dsimp only at hSw); go_simp; (try with_reducible rfl))
  try simp only [Act.put, List.setIfInBounds_toArray, List.set_cons_zero, List.set_cons_succ, List.getElem_toArray, List.getElem_cons_succ, List.getElem_cons_zero]
  refine wpAnyH_ready (rs := [22]) (by kernel_rfl) (by simp) ?_
  refine AllReadyH.cons rfl (fun K hK => ?_) AllReadyH.nil
  go_simp
  go_at_call 28
  (with_reducible refine (C3.out v2 Dv2).mono ?_)
  rintro e v3 ⟨aM, cM, oM, fM, mM, fcM, tM, rfl, cv3⟩
  have Dv3 := below_q Dv2 cv3
  clear hS
  dsimp only
  refine Shut.out hK _ _ (HX.out v3 Dv3) (fun hS => ?_)
  try simp only [Act.put, List.setIfInBounds_toArray, List.set_cons_zero, List.set_cons_succ, List.getElem_toArray, List.getElem_cons_succ, List.getElem_cons_zero]
  refine wpAnyH_take (i := 23) (v := .agg #[.slice aM nN cM]) rfl (by kernel_rfl) (by kernel_rfl) (by kernel_rfl) (fun _ _ _ h => h) (Or.inl ⟨by kernel_rfl, ?y21⟩) (by assumption) ?r21
  case y21 => (intro w' hSw; rfl)
  try simp only [Act.put, List.setIfInBounds_toArray, List.set_cons_zero, List.set_cons_succ, List.getElem_toArray, List.getElem_cons_succ, List.getElem_cons_zero]
  refine wpAnyH_take (i := 24) (v := .slice aM nN cM) rfl (by kernel_rfl) (by kernel_rfl) (by kernel_rfl) (fun _ _ _ h => h) (Or.inl ⟨by kernel_rfl, ?y22⟩) (by assumption) ?r22
  case y22 => (intro w' hSw; rfl)
  try simp only [Act.put, List.setIfInBounds_toArray, List.set_cons_zero, List.set_cons_succ, List.getElem_toArray, List.getElem_cons_succ, List.getElem_cons_zero]
  refine wpAnyH_take (i := 25) (v := ?v23) rfl (by kernel_rfl) (by kernel_rfl) (by kernel_rfl) (fun _ _ _ h => h) (Or.inl ⟨by kernel_rfl, ?y23⟩) (by assumption) ?r23
  case y23 => (intro w' hSw; (try dsimp only at hSw); go_simp; (try with_reducible rfl))
  try simp only [Act.put, List.setIfInBounds_toArray, List.set_cons_zero, List.set_cons_succ, List.getElem_toArray, List.getElem_cons_succ, List.getElem_cons_zero]
  refine wpAnyH_take (i := 26) (v := ?v24) rfl (by kernel_rfl) (by kernel_rfl) (by kernel_rfl) (fun _ _ _ h => h) (Or.inl ⟨by kernel_rfl, ?y24⟩) (by assumption) ?r24
  case y24 => (intro w' hSw; (try dsimp only at hSw); go_simp; (try with_reducible rfl))
  try simp only [Act.put, List.setIfInBounds_toArray, List.set_cons_zero, List.set_cons_succ, List.getElem_toArray, List.getElem_cons_succ, List.getElem_cons_zero]
  refine wpAnyH_take (i := 27) (v := ?v25) rfl (by kernel_rfl) (by kernel_rfl) (by kernel_rfl) (fun _ _ _ h => h) (Or.inl ⟨by kernel_rfl, ?y25⟩) (by assumption) ?r25
  case y25 => (intro w' hSw; (try dsimp only at hSw); go_simp; (try with_reducible rfl))
  try simp only [Act.put, List.setIfInBounds_toArray, List.set_cons_zero, List.set_cons_succ, List.getElem_toArray, List.getElem_cons_succ, List.getElem_cons_zero]
  refine wpAnyH_take (i := 28) (v := ?v26) rfl (by kernel_rfl) (by kernel_rfl) (by kernel_rfl) (fun _ _ _ h => h) (Or.inl ⟨by kernel_rfl, ?y26⟩) (by assumption) ?r26
  case y26 => (intro w' hSw; (try dsimp only at hSw); go_simp; (try with_reducible rfl))
  try simp only [Act.put, List.setIfInBounds_toArray, List.set_cons_zero, List.set_cons_succ, List.getElem_toArray, List.getElem_cons_succ, List.getElem_cons_zero]
  refine wpAnyH_take (i := 29) (v := ?v27) rfl (by kernel_rfl) (by kernel_rfl) (by kernel_rfl) (fun _ _ _ h => h) (Or.inl ⟨by kernel_rfl, ?y27⟩) (by assumption) ?r27
  case y27 => (intro w' hSw; (try dsimp only at hSw); go_simp; (try with_reducible rfl))
  try simp only [Act.put, List.setIfInBounds_toArray, List.set_cons_zero, List.set_cons_succ, List.getElem_toArray, List.getElem_cons_succ, List.getElem_cons_zero]
  refine wpAnyH_take (i := 30) (v := ?v28) rfl (by kernel_rfl) (by kernel_rfl) (by kernel_rfl) (fun _ _ _ h => h) (Or.inl ⟨by kernel_rfl, ?y28⟩) (by assumption) ?r28
  case y28 => (intro w' hSw; (try dsimp only at hSw); go_simp; (try with_reducible rfl))
  try simp only [Act.put, List.setIfInBounds_toArray, List.set_cons_zero, List.set_cons_succ, List.getElem_toArray, List.getElem_cons_succ, List.getElem_cons_zero]
  refine wpAnyH_take (i := 31) (v := ?v29) rfl (by kernel_rfl) (by kernel_rfl) (by kernel_rfl) (fun _ _ _ h => h) (Or.inl ⟨by kernel_rfl, ?y29⟩) (by assumption) ?r29
  case y29 => (intro w' hSw; (try dsimp only at hSw); go_simp; (try with_reducible rfl))
  try simp only [Act.put, List.setIfInBounds_toArray, List.set_cons_zero, List.set_cons_succ, List.getElem_toArray, List.getElem_cons_succ, List.getElem_cons_zero]
  refine wpAnyH_take (i := 32) (v := ?v30) rfl (by kernel_rfl) (by kernel_rfl) (by kernel_rfl) (fun _ _ _ h => h) (Or.inl ⟨by kernel_rfl, ?y30⟩) (by assumption) ?r30
  case y30 => (intro w' hSw; (try dsimp only at hSw); go_simp; (try with_reducible rfl))
  try simp only [Act.put, List.setIfInBounds_toArray, List.set_cons_zero, List.set_cons_succ, List.getElem_toArray, List.getElem_cons_succ, List.getElem_cons_zero]
  refine wpAnyH_take (i := 33) (v := ?v31) rfl (by kernel_rfl) (by kernel_rfl) (by kernel_rfl) (fun _ _ _ h => h) (Or.inl ⟨by kernel_rfl, ?y31⟩) (by assumption) ?r31
  case y31 => (intro w' hSw; (try dsimp only at hSw); go_simp; (try with_reducible rfl))
  try simp only [Act.put, List.setIfInBounds_toArray, List.set_cons_zero, List.set_cons_succ, List.getElem_toArray, List.getElem_cons_succ, List.getElem_cons_zero]
  refine wpAnyH_take (i := 34) (v := ?v32) rfl (by kernel_rfl) (by kernel_rfl) (by kernel_rfl) (fun _ _ _ h => h) (Or.inl ⟨by kernel_rfl, ?y32⟩) (by assumption) ?r32
  case y32 => (intro w' hSw; (try dsimp only at hSw); go_simp; (try with_reducible rfl))
  try simp only [Act.put, List.setIfInBounds_toArray, List.set_cons_zero, List.set_cons_succ, List.getElem_toArray, List.getElem_cons_succ, List.getElem_cons_zero]
  refine wpAnyH_ready (rs := [35]) (by kernel_rfl) (by simp) ?_
  refine AllReadyH.cons rfl (fun K hK => ?_) AllReadyH.nil
  go_simp
  go_at_call 17
  (with_reducible refine (C4.out v3 Dv3).mono ?_)
  rintro e v4 ⟨rfl, cv4⟩
  have Dv4 := below_q Dv3 cv4
  clear hS
  dsimp only
  refine Shut.out hK _ _ (HX.out v4 Dv4) (fun hS => ?_)
  try simp only [Act.put, List.setIfInBounds_toArray, List.set_cons_zero, List.set_cons_succ, List.getElem_toArray, List.getElem_cons_succ, List.getElem_cons_zero]
  refine wpAnyH_take (i := 36) (v := ?v33) rfl (by kernel_rfl) (by kernel_rfl) (by kernel_rfl) (fun _ _ _ h => h) (Or.inl ⟨by kernel_rfl, ?y33⟩) (by assumption) ?r33
  case y33 => (intro w' hSw; (try dsimp only at hSw); go_simp; (try with_reducible rfl))
  try simp only [Act.put, List.setIfInBounds_toArray, List.set_cons_zero, List.set_cons_succ, List.getElem_toArray, List.getElem_cons_succ, List.getElem_cons_zero]
  refine wpAnyH_take (i := 37) (v := ?v34) rfl (by kernel_rfl) (by kernel_rfl) (by kernel_rfl) (fun _ _ _ h => h) (Or.inl ⟨by kernel_rfl, ?y34⟩) (by assumption) ?r34
  case y34 => (intro w' hSw; (try dsimp only at hSw); go_simp; (try with_reducible rfl))
  try simp only [Act.put, List.setIfInBounds_toArray, List.set_cons_zero, List.set_cons_succ, List.getElem_toArray, List.getElem_cons_succ, List.getElem_cons_zero]
  refine wpAnyH_done (by kernel_rfl) (NoPanic.normal ?_) _
  clear i0 i1 i2 i3 j0 j1 j2 j3 k0 k1 k2 l0 l1 l2
  have d19 := HD18.out.keep Dv4
  have x19 := HX18.out.keep Dv4
  have B19 := below_q HB18.out Dv4
  obtain ⟨q0, q1, q2, q3⟩ := d19.b.dev
  have cd := devOkS va vn vc qs op fa m fc fs dn v4 d19.c d19.f
  rw [HDS.out, HBD.out] at cd
  go_wp2_with fail
  refine cd.mono ?_
  rintro e w20 ⟨rfl, b20⟩
  have d20 := d19.keep b20
  have x20 := x19.keep b20
  have B20 := below_q B19 b20
  clear d19 x19 B19 b20 q0 q1 q2 q3 cd
  have hcc := HCC.out
  rw [HBD.out] at hcc
  cases Bd with
  | false =>
    have hc1 : cc = 1 := by simpa using hcc.symm
    subst hc1
    clear hcc HCC
    go_wp2
    go_ret
    exact ⟨rfl, B20⟩
  | true =>
    have hc1 : cc = 10 := by simpa using hcc.symm
    subst hc1
    clear hcc HCC
    have hn3 : n3 = vn := by
      have h1 := x20.c.len
      have h2 := d20.c.len
      have h3 : (qs3.map BkR.D).length = (qs.map BkR.D).length := by rw [hD3, HDS.out]
      simp at h3
      omega
    subst hn3
    have hsc := sameChip_same a3 va n3 c3 vc qs3 qs w20 x20.c d20.c (by rw [hD3, HDS.out])
    obtain ⟨q0, q1, q2, q3⟩ := d20.b.dev
    obtain ⟨p0, p1, p2, p3⟩ := x20.b.dev
    go_wp2_with fail
    refine hsc.mono ?_
    rintro e w21 ⟨rfl, b21⟩
    have d21 := d20.keep b21
    have x21 := x20.keep b21
    clear q0 q1 q2 q3 p0 p1 p2 p3 hsc d20 x20
    obtain ⟨q0, q1, q2, q3⟩ := d21.b.dev
    obtain ⟨p0, p1, p2, p3⟩ := x21.b.dev
    go_wp2
    go_ret
    exact ⟨by first | rfl | simp, below_q B20 b21⟩
end

section
open Go.RowKit
def ByteRow (w : World) (a : Option Addr) (len cap : Nat) (zs : List Int) : Prop :=
  (a = none ∧ len = 0 ∧ cap = 0 ∧ zs = []) ∨ ∃ x, a = some x ∧ len ≤ cap ∧ cap ≤ maxLen ∧ zs.length = cap ∧ (∀ i, i < zs.length → w.cell? (x.add i) = some (.int .u8 (zs.getD i 0))) ∧ ∀ n ∈ zs, (Lit.int .u8 n).wf = true
theorem walkFnPowers (a0 : Option Addr) (len0 cap0 : Nat) (z0 : List Int) (w : World) (hbr : ByteRow w a0 len0 cap0 z0) (hg : EtCell w) :
    Calls Tryz.prog 5 #[.slice a0 len0 cap0] w fun e w' => e = .returned (.bool true) ∧ Below w.heap.size w w' := by
  obtain ⟨zs, hn, hr, hb⟩ := rd_of_row hbr
  exact walkPowers a0 len0 cap0 zs w hn hr hb hg
end
end Go.Proofs.YtoeeblmnogeonaaGreatDoor


