/-
  Joined: ChEi, ChEn, ChBi, DvE, DvX, DvL, LdK, ErM, DvBE, SamL, DrSm, ErW, ErZ.
-/
import Derived.Test.YtoeeblmnogeonaaGreatDoorErE
namespace Go.Proofs.YtoeeblmnogeonaaGreatDoor
section
open Go.RowKit
theorem pgs_8 (f : FkR) : f.pgs 0 (List.replicate 8 pgZ) = ⟨List.replicate 8 pgZ, f.wear, f.bad, rfl⟩ := by
  obtain ⟨q0, q1, q2, q3, q4, q5, q6, q7, hq⟩ := list8 f.h8
  refine FkR.ext' ?_ rfl rfl
  simp [FkR.pgs, FkR.pg, List.replicate, hq]
theorem Tryz.sizePages : (Tryz.prog.info? 152).map (·.size) = some 16 := by kernel_rfl
/-- What erase refuses; the flash behind it. -/
def erC (fs : List FkR) (x : Int) : Int := if btcC fs x = 0 then (if (fs[x.toNat]?).map FkR.wear = some 100000 then 5 else 0) else btcC fs x
def erAt (fs : List FkR) (k : Nat) : List FkR := match fs[k]? with | some f => fs.set k ⟨List.replicate 8 pgZ, f.wear + 1, f.bad, rfl⟩ | none => fs
end

section
open Go.RowKit
set_option maxRecDepth 100000 in
set_option maxHeartbeats 4000000 in
theorem bteI (F G n : Nat) (fs : List FkR) (x : Int) (w0 w : World) (hn : n ≤ 1048576) (h : FO w0 w F G n fs) :
    Calls Tryz.prog 112 #[.pointer (some ⟨F, 0, none⟩), .int .i64 x] w fun e w' => e = .returned (.tuple #[if erC fs x = 0 then .pointer (some ⟨G, x.toNat * 18, none⟩) else .pointer none, errV (erC fs x)]) ∧ w' = w := by
  have hcall := btcI F G n fs x w0 w hn h
  by_cases hc : btcC fs x = 0
  · obtain ⟨k, f, rfl, hf⟩ := btc_zero hc
    rw [if_pos hc, hc, errV_zero, Int.toNat_natCast] at hcall
    have c16 : w.cell? ⟨G, k * 18 + 16, none⟩ = some (.int .i64 f.wear) := by
      rw [h.cell hf (by omega)]
      show (pgE.xv f.ps ++ [Value.int .i64 f.wear, Value.bool f.bad])[16]? = _
      rw [List.getElem?_append_right (by rw [xv16]; omega), xv16]
      rfl
    have hee : erC fs (k : Int) = if f.wear = 100000 then 5 else 0 := by unfold erC; rw [if_pos hc]; simp [hf]
    rw [hee, Int.toNat_natCast]
    generalize f.wear = wear at c16
    clear h hf hc hee
    by_cases h5 : wear = 100000
    · subst h5
      go_enter Tryz.func112, Tryz.ntmps112
      go_wp2_with fail
      refine hcall.mono ?_
      rintro e w1 ⟨rfl, hw⟩
      obtain rfl := hw.symm
      go_wp2
      refine bodyPost_ret (v := .tuple #[.pointer none, .iface 149 (.int .i64 5)]) (by simp [results, Tryz.f112, go_sem]) rfl ?_
      exact ⟨by simp [errV], rfl⟩
    · have h5b : (wear == 100000) = false := by simp [h5]
      rw [if_neg h5]
      go_enter Tryz.func112, Tryz.ntmps112
      go_wp2_with fail
      refine hcall.mono ?_
      rintro e w1 ⟨rfl, hw⟩
      obtain rfl := hw.symm
      go_wp2
      refine bodyPost_ret (v := .tuple #[.pointer (some ⟨G, k * 18, none⟩), .nilIface]) (by simp [results, Tryz.f112, go_sem]) rfl ?_
      exact ⟨by simp [errV], rfl⟩
  · have hee : erC fs x = btcC fs x := by unfold erC; rw [if_neg hc]
    rw [if_neg hc, errV_some hc] at hcall
    rw [hee, if_neg hc, errV_some hc]
    generalize btcC fs x = c at hcall
    clear h hc hee
    go_enter Tryz.func112, Tryz.ntmps112
    go_wp2_with fail
    refine hcall.mono ?_
    rintro e w1 ⟨rfl, hw⟩
    obtain rfl := hw.symm
    go_wp2
    refine bodyPost_ret (v := .tuple #[.pointer none, .iface 149 (.int .i64 c)]) (by simp [results, Tryz.f112, go_sem]) rfl ?_
    exact ⟨rfl, rfl⟩
theorem setCells_sv (w : World) (G : Nat) : ∀ (vs : List Value) (o : Nat), Sv [G] w (w.setCells G o vs)
  | [], _ => Sv.refl _ _
  | v :: vs, o => (Sv.gr (gr_setC w G o v) (fun g hg => by simp at hg; simp [hg])).trans (setCells_sv (w.setCell ⟨G, o, none⟩ v) G vs (o + 1))
set_option maxRecDepth 100000 in
set_option maxHeartbeats 4000000 in
theorem cEraseI (F G n k : Nat) (fs : List FkR) (f : FkR) (w0 w : World) (h : FO w0 w F G n fs) (hf : fs[k]? = some f) (hw : 0 ≤ f.wear ∧ f.wear ≤ 100000) :
    Calls Tryz.prog 114 #[.pointer (some ⟨G, k * 18, none⟩)] w (FOA w0 w F G n (erAt fs k)) := by
  obtain ⟨hw1, hw2⟩ := hw
  generalize hGP : FOA w0 w F G n (erAt fs k) = P
  have HGP : Hid _ := hGP
  clear hGP
  obtain ⟨wear, hwe⟩ : ∃ wear, f.wear = wear := ⟨_, rfl⟩
  rw [hwe] at hw1 hw2
  have hth : w.there G (k * 18) 16 := fun j hj => by
    obtain ⟨v, hv⟩ := h.is hf (j := j) (by omega)
    rw [hv]
    exact ⟨rfl, h.g.frozen _⟩
  have f6 := FO.put (k := k) (List.replicate 8 pgZ) 0 w fs f h hf (by simp)
  rw [pgs_8, Nat.zero_mul, Nat.add_zero] at f6
  have g6 := f6.one (j := 16) (x := .int .i64 (wear + 1)) (get_set hf) (by omega) (en_wear _ (wear + 1))
  rw [List.set_set] at g6
  have hgs : erAt fs k = fs.set k (FkR.wearTo ⟨List.replicate 8 pgZ, f.wear, f.bad, rfl⟩ (wear + 1)) := by
    unfold erAt
    rw [hf]
    dsimp only
    rw [hwe]
    rfl
  rw [← hgs] at g6
  have c16' : (w.setCells G (k * 18) (pgE.xv (List.replicate 8 pgZ))).cell? ⟨G, k * 18 + 16, none⟩ = some (.int .i64 wear) := by
    rw [f6.cell (get_set hf) (by omega)]
    show (pgE.xv (List.replicate 8 pgZ) ++ [Value.int .i64 f.wear, Value.bool f.bad])[16]? = _
    rw [hwe]
    rfl
  have r16 := f6.g.frozen (k * 18 + 16)
  have hsv := (setCells_sv w G (pgE.xv (List.replicate 8 pgZ)) (k * 18)).trans (Sv.gr (gr_setC _ G (k * 18 + 16) (.int .i64 (wear + 1))) (fun g hg => by simp at hg; simp [hg]))
  have hxx : pgE.xv (List.replicate 8 pgZ) = (#[.bool false, .slice none 0 0, .bool false, .slice none 0 0, .bool false, .slice none 0 0, .bool false, .slice none 0 0, .bool false, .slice none 0 0, .bool false, .slice none 0 0, .bool false, .slice none 0 0, .bool false, .slice none 0 0] : Array Value).toList := rfl
  rw [hxx] at c16' r16 g6 hsv
  obtain ⟨Z, hZ⟩ : ∃ Z : Array Value, Z = #[.bool false, .slice none 0 0, .bool false, .slice none 0 0, .bool false, .slice none 0 0, .bool false, .slice none 0 0, .bool false, .slice none 0 0, .bool false, .slice none 0 0, .bool false, .slice none 0 0, .bool false, .slice none 0 0] := ⟨_, rfl⟩
  have hZs : Z.size = 16 := by rw [hZ]; rfl
  have hZ1 : Z.all (·.oneCell') = true := by rw [hZ]; simp [Value.oneCell']
  rw [← hZ] at c16' r16 g6 hsv
  have HZ : Hid _ := hZ
  have HTH : Hid (w.there G (k * 18) Z.size) := by rw [hZs]; exact hth
  have HS16 : Hid ((Tryz.prog.info? 152).map (·.size) = some Z.size) := by show _ = _; rw [Tryz.sizePages, hZs]
  have HZ1 : Hid _ := hZ1
  have HG6 : Hid _ := And.intro g6 hsv
  have hwr : IntKind.i64.wrap (wear + 1) = wear + 1 := wrap_small _ (by omega) (by omega)
  obtain ⟨W6, hW6⟩ : ∃ W, w.setCells G (k * 18) Z.toList = W := ⟨_, rfl⟩
  have HW6 : Hid _ := hW6
  rw [hW6] at c16' r16 HG6
  clear h hf hwe hth f6 g6 hgs hxx hZ hZs hZ1 hW6 hsv
  go_enter Tryz.func114, Tryz.ntmps114
  go_upto_region 1 with (refine wpList_store_mid rfl 152 (.tmp 5) (.tmp 3) rfl G (k * 18) Z rfl (by rw [HZ.out]; rfl) HTH.out HS16.out HZ1.out ?_; rw [HW6.out])
  go_wp2
  try go_end0
  rw [← HGP.out]
  exact ⟨rfl, HG6.out.1, HG6.out.2⟩
end

section
open Go.RowKit
/-- The flash's code and the flash behind an erase are the chip's. -/
theorem er_code {bs : List BkR} {fs : List FkR} (h : FlOf bs fs) (hw : ∀ f ∈ fs, 0 ≤ f.wear ∧ f.wear ≤ 100000) (x : Int) : erC fs x = codeE true (bs.map BkR.D) x := by
  by_cases hx : 0 ≤ x ∧ x < (bs.length : Int)
  · obtain ⟨k, rfl⟩ : ∃ k : Nat, x = (k : Int) := ⟨x.toNat, by omega⟩
    obtain ⟨r, hr⟩ : ∃ r, bs[k]? = some r := ⟨_, List.getElem?_eq_getElem (by omega)⟩
    obtain ⟨f, hf, _, h2, h3⟩ := h.2 k _ hr
    have h4 := hw f (List.mem_of_getElem? hf)
    unfold codeE
    rw [mayD_in hr, wornAt_in hr]
    unfold erC
    rw [btcC_in hf, ← h3, ← h2]
    cases f.bad with
    | true => simp
    | false =>
      simp only [Int.toNat_natCast, hf, Option.map_some, Option.some.injEq]
      by_cases h5 : f.wear = 100000
      · simp [h5]
      · have : ¬ (100000 : Int) ≤ f.wear := by omega
        simp [h5, this]
  · have h1 := h.1
    have hb : btcC fs x = 1 := by unfold btcC; rw [if_pos (by omega)]
    unfold erC codeE
    rw [hb, mayD_form (.inr (by simp; omega))]
    rfl
end

section
open Go.RowKit
set_option maxRecDepth 100000 in
set_option maxHeartbeats 4000000 in
theorem cErPartI (F G n k : Nat) (fs : List FkR) (f : FkR) (kp : Int) (w0 w : World) (h : FO w0 w F G n fs) (hf : fs[k]? = some f) (hw : 0 ≤ f.wear ∧ f.wear ≤ 100000) (hk : 0 ≤ kp ∧ kp ≤ 400) :
    Calls Tryz.prog 116 #[.pointer (some ⟨G, k * 18, none⟩), .int .i64 kp] w (FOA w0 w F G n (tornAt fs k kp)) := by
  have hcall := cEraseI F G n k fs f w0 w h hf hw
  obtain ⟨q, rfl⟩ : ∃ q : Nat, kp = (q : Int) := ⟨kp.toNat, by omega⟩
  obtain ⟨M, hM⟩ : ∃ M, min q 8 = M := ⟨_, rfl⟩
  have hM8 : M ≤ 8 := by omega
  have hMi : min (q : Int) 8 = (M : Int) := by omega
  have HT : Hid (tornAt fs k (q : Int) = fs.set k (fkT f M)) := by show _ = _; unfold tornAt; rw [hf]; simp only [Int.toNat_natCast]; rw [hM]
  have HE : Hid (erAt fs k = fs.set k (fkT f 0)) := by show _ = _; unfold erAt; rw [hf]; rfl
  have HK : Hid (fs[k]? = some f) := hf
  generalize hGP : FOA w0 w F G n (tornAt fs k (q : Int)) = P
  have HGP : Hid _ := hGP
  clear h hf hw hk hM hGP
  have hif : (if (8 : Int) < (q : Int) then (8 : Int) else (q : Int)) = (M : Int) := by split <;> omega
  have hif2 : (if (q : Int) < (8 : Int) then (q : Int) else (8 : Int)) = (M : Int) := by split <;> omega
  go_enter Tryz.func116, Tryz.ntmps116
  go_wp2_with fail
  refine hcall.mono ?_
  rintro e w1 ⟨rfl, hfo, hsv⟩
  rw [HE.out] at hfo
  have HFO : Hid _ := And.intro hfo hsv
  clear hfo hsv hcall
  go_wp2
  have hM8i : (M : Int) ≤ 8 := by omega
  go_loopw [9] (fun i wr => ∃ (j : Nat), j ≤ M ∧ i = .int .i64 j ∧ Hid (FO w0 wr F G n (fs.set k (fkT f j)) ∧ Sv [G] w wr)) (fun i _ => M - (intOf i).toNat)
  case atStart => exact ⟨0, Nat.zero_le _, rfl, HFO⟩
  case round =>
    obtain ⟨j, hj, rfl, hfo⟩ := hrel
    by_cases hjm : j < M
    · have hji : (j : Int) < (M : Int) := by omega
      have hj8 : (j : Int) < 8 := by omega
      have hkk : (fs.set k (fkT f j))[k]? = some (fkT f j) := get_set HK.out
      have fo := hfo.out.1
      obtain ⟨v0, p0⟩ := fo.is hkk (j := j * 2) (by omega)
      have r0 : wr.cell? ⟨G, k * 18 + j * 2, none⟩ = some v0 := p0
      have f0 := fo.g.frozen (k * 18 + j * 2)
      have hq : (fkT f j).ps[j]? = some pgZ := by show (pgsT j)[j]? = _; rw [pgsT_at (by omega), if_neg (by omega)]
      have fn := fo.one (j := j * 2) (x := .bool true) hkk (by omega) (en_pg (j2 := 0) (p := pgU) hq (by omega) rfl)
      rw [List.set_set, show (fkT f j).pg j pgU = fkT f (j + 1) from FkR.ext' (pgsT_succ (by omega)) rfl rfl] at fn
      have HN : Hid (FO w0 (wr.setCell ⟨G, k * 18 + j * 2, none⟩ (.bool true)) F G n (fs.set k (fkT f (j + 1))) ∧ Sv [G] w (wr.setCell ⟨G, k * 18 + j * 2, none⟩ (.bool true))) := ⟨fn, hfo.out.2.trans (sv_one _ _ _ _)⟩
      clear fo p0 fn hkk hq
      go_wp2
      go_roundw
      case rel => exact ⟨j + 1, by omega, by go_num, HN⟩
      case measure => simp [intOf]; omega
    · have hji : ¬ (j : Int) < (M : Int) := by omega
      obtain rfl : j = M := by omega
      go_wp2
      try go_end0
      rw [← HGP.out]
      exact ⟨rfl, by rw [HT.out]; exact hfo.out.1, hfo.out.2⟩
set_option maxHeartbeats 1600000 in
theorem erC1I (F G n k K : Nat) (fs : List FkR) (f : FkR) (w0 w : World) (h : FO w0 w F G n fs) (hf : fs[k]? = some f) (hw : 0 ≤ f.wear ∧ f.wear ≤ 100000) (hK : Blk w K 127 #[.pointer (some ⟨G, k * 18, none⟩)]) :
    Calls Tryz.prog 113 #[.pointer (some ⟨K, 0, none⟩)] w (FOA w0 w F G n (erAt fs k)) := by
  have hcall := cEraseI F G n k fs f w0 w h hf hw
  have x0 := hK.cell 0
  simp at x0
  generalize hGP : FOA w0 w F G n (erAt fs k) = P at hcall
  have HGP : Hid _ := hGP
  clear hGP h hf hw hK
  go_enter Tryz.func113, Tryz.ntmps113
  go_wp2_with fail
  refine hcall.mono ?_
  intro e w1 hA
  rw [← HGP.out] at hA
  obtain ⟨rfl, h1, h2⟩ := hA
  go_wp2
  try go_end0
  rw [← HGP.out]
  exact ⟨rfl, h1, h2⟩
set_option maxHeartbeats 1600000 in
theorem erC2I (F G n k K : Nat) (fs : List FkR) (f : FkR) (kp : Int) (w0 w : World) (h : FO w0 w F G n fs) (hf : fs[k]? = some f) (hw : 0 ≤ f.wear ∧ f.wear ≤ 100000) (hk : 0 ≤ kp ∧ kp ≤ 400) (hK : Blk w K 127 #[.pointer (some ⟨G, k * 18, none⟩)]) :
    Calls Tryz.prog 115 #[.int .i64 kp, .pointer (some ⟨K, 0, none⟩)] w (FOA w0 w F G n (tornAt fs k kp)) := by
  have hcall := cErPartI F G n k fs f kp w0 w h hf hw hk
  have x0 := hK.cell 0
  simp at x0
  generalize hGP : FOA w0 w F G n (tornAt fs k kp) = P at hcall
  have HGP : Hid _ := hGP
  clear hGP h hf hw hK hk
  go_enter Tryz.func115, Tryz.ntmps115
  go_wp2_with fail
  refine hcall.mono ?_
  intro e w1 hA
  rw [← HGP.out] at hA
  obtain ⟨rfl, h1, h2⟩ := hA
  go_wp2
  try go_end0
  rw [← HGP.out]
  exact ⟨rfl, h1, h2⟩
end

section
open Go.RowKit
set_option maxRecDepth 100000 in
set_option maxHeartbeats 8000000 in
theorem opErI (X F G n k K : Nat) (ks : List FkR) (f : FkR) (ops : Int) (fa : Option Addr) (m fc : Nat) (fs : List FtD) (down : Bool) (w0 w : World) (h : DO w0 w X F G n ks ops fa m fc down) (hfr : FR w fa m fs) (ho : 0 ≤ ops ∧ ops < 100000) (hfs : ∀ t ∈ fs, ftOk t = true) (hf : ks[k]? = some f) (hw : 0 ≤ f.wear ∧ f.wear ≤ 100000) (hK : Blk w K 127 #[.pointer (some ⟨G, k * 18, none⟩)]) (hKX : K ≠ X) :
    Calls Tryz.prog 99 #[.pointer (some ⟨X, 0, none⟩), .pointer (some ⟨G, k * 18, none⟩), .func (.func 113) #[] #[.pointer (some ⟨K, 0, none⟩)], .func (.func 115) #[] #[.pointer (some ⟨K, 0, none⟩)]] w (EvA w0 w X F G n 0 ks (erAt ks k) (badAt ks k) (tornAt ks k) (faD ops fs) ops fa m fc down) := by
  have hcall := beginI X F G n ks ops fa m fc fs down w0 w h hfr ho
  have C1 : Hid (∀ W : World, FO w0 W F G n ks → Blk W K 127 #[.pointer (some ⟨G, k * 18, none⟩)] → Calls Tryz.prog 113 #[.pointer (some ⟨K, 0, none⟩)] W (FOA w0 W F G n (erAt ks k))) := fun W h1 h2 => erC1I F G n k K ks f w0 W h1 hf hw h2
  have C2 : Hid (∀ (W : World) (kp : Int), 0 ≤ kp ∧ kp ≤ 400 → FO w0 W F G n ks → Blk W K 127 #[.pointer (some ⟨G, k * 18, none⟩)] → Calls Tryz.prog 115 (#[.int .i64 kp] ++ #[.pointer (some ⟨K, 0, none⟩)]) W (FOA w0 W F G n (tornAt ks k kp))) := fun W kp hkp h1 h2 => erC2I F G n k K ks f kp w0 W h1 hf hw hkp h2
  have hmem : ∀ t, faD ops fs = some t → 0 ≤ t.kp ∧ t.kp ≤ 400 := fun t ht => by
    have h1 := hfs t (List.mem_of_find?_eq_some ht)
    unfold ftOk at h1
    simp at h1
    omega
  obtain ⟨o, hoo⟩ : ∃ o, faD ops fs = o := ⟨_, rfl⟩
  rw [hoo] at hcall hmem ⊢
  have HKX : Hid _ := hKX
  have HK : Hid _ := hK
  have HF : Hid _ := hf
  have HDO : Hid _ := h
  have hXw := h.x.lt
  have hGw := h.fo.g.lt (g := G) rfl
  have HXG : Hid (X ≠ G) := h.xg
  clear hoo hfr hf hw hK h hfs ho
  cases o with
  | none =>
    simp only [Option.getD_none, Option.isSome_none, ftZ] at hcall
    generalize hGP : EvA w0 w X F G n 0 ks (erAt ks k) (badAt ks k) (tornAt ks k) none ops fa m fc down = P
    have HGP : Hid _ := hGP
    clear hGP hmem
    go_enter Tryz.func99, Tryz.ntmps99
    go_wp2_with fail
    refine hcall.mono ?_
    rintro e w1 ⟨rfl, do1, sv1⟩
    have b2 : Below w1.heap.size w1 (w1.alloc (.cells #[.int .i64 0, .int .i64 0, .int .i64 0] 51)) := (Below.refl _ _).alloc (Nat.le_refl _) _
    have do2 := do1.keep b2
    have k2 := (Blk.svs HK.out sv1 (by simp; exact HKX.out)).keep b2

    have hc2 := C1.out _ do2.fo k2
    have sv2 : Sv [X, G] w (w1.alloc (.cells #[.int .i64 0, .int .i64 0, .int .i64 0] 51)) := (sv1.wider (by simp)).trans (Below.sv b2 _)
    clear hcall do1 sv1 b2
    go_wp2_with fail
    refine hc2.mono ?_
    rintro e w3 ⟨rfl, fo3, sv3⟩
    have HN : Hid _ := And.intro (do2.row fo3 sv3) (sv2.trans (sv3.wider (by simp)))
    clear do2 fo3 sv3 sv2 hc2
    go_wp2
    rw [← HGP.out]
    exact ⟨rfl, HN.out.1, HN.out.2⟩
  | some t =>
    obtain ⟨ft, fk, fp⟩ := t
    simp only [Option.getD_some, Option.isSome_some] at hcall
    have hkp := hmem _ rfl
    dsimp only at hkp
    by_cases h1 : fk = 1
    · subst h1
      generalize hGP : EvA w0 w X F G n 0 ks (erAt ks k) (badAt ks k) (tornAt ks k) (some ⟨ft, 1, fp⟩) ops fa m fc down = P
      have HGP : Hid _ := hGP
      clear hGP hmem
      go_enter Tryz.func99, Tryz.ntmps99
      go_wp2_with fail
      refine hcall.mono ?_
      rintro e w1 ⟨rfl, do1, sv1⟩
      have b2 : Below w1.heap.size w1 (w1.alloc (.cells #[.int .i64 ft, .int .i64 1, .int .i64 fp] 51)) := (Below.refl _ _).alloc (Nat.le_refl _) _
      have do2 := do1.keep b2
      have sv2 : Sv [X, G] w (w1.alloc (.cells #[.int .i64 ft, .int .i64 1, .int .i64 fp] 51)) := (sv1.wider (by simp)).trans (Below.sv b2 _)
      obtain ⟨v0, p0⟩ := do2.fo.is HF.out (j := 17) (by omega)
      have g0 := do2.fo.g.frozen (k * 18 + 17)
      have fn := do2.fo.one (j := 17) (x := .bool true) HF.out (by omega) (en_bad f true)
      have hbk : badAt ks k = ks.set k (f.badTo true) := by unfold badAt; rw [HF.out]
      rw [← hbk] at fn
      have HN : Hid _ := And.intro (do2.row fn (sv_one _ _ _ _)) (sv2.trans ((sv_one _ G (k * 18 + 17) (.bool true)).wider (by simp)))
      clear do1 sv1 b2 do2 sv2 fn hbk hcall
      go_wp2
      rw [← HGP.out]
      exact ⟨rfl, HN.out.1, HN.out.2⟩
    · have h1b : (fk == 1) = false := by simpa using h1
      generalize hGP : EvA w0 w X F G n 0 ks (erAt ks k) (badAt ks k) (tornAt ks k) (some ⟨ft, fk, fp⟩) ops fa m fc down = P
      have HGP : Hid _ := hGP
      have H1 : Hid _ := h1
      clear hGP hmem h1
      go_enter Tryz.func99, Tryz.ntmps99
      go_wp2_with fail
      refine hcall.mono ?_
      rintro e w1 ⟨rfl, do1, sv1⟩
      have b2 : Below w1.heap.size w1 (w1.alloc (.cells #[.int .i64 ft, .int .i64 fk, .int .i64 fp] 51)) := (Below.refl _ _).alloc (Nat.le_refl _) _
      have do2 := do1.keep b2
      have k2 := (Blk.svs HK.out sv1 (by simp; exact HKX.out)).keep b2

      have hc2 := C2.out _ fp hkp do2.fo k2
      have sv2 : Sv [X, G] w (w1.alloc (.cells #[.int .i64 ft, .int .i64 fk, .int .i64 fp] 51)) := (sv1.wider (by simp)).trans (Below.sv b2 _)
      clear hcall do1 sv1 b2
      go_wp2_with fail
      refine hc2.mono ?_
      rintro e w3 ⟨rfl, fo3, sv3⟩
      have HN : Hid _ := And.intro (do2.row fo3 sv3) (sv2.trans (sv3.wider (by simp)))
      clear do2 fo3 sv3 sv2 hc2
      go_wp2
      rw [← HGP.out]
      have h1 := H1.out
      have e1 : evEnd 0 (some ⟨ft, fk, fp⟩) = .panicked [{ v := .iface 149 (.int .i64 10), recovered := false }] := by
        unfold evEnd opEnd
        rw [if_pos rfl]
        dsimp only
        rw [if_neg h1]
      have e2 : opK (erAt ks k) (badAt ks k) (tornAt ks k) (some ⟨ft, fk, fp⟩) = tornAt ks k fp := by
        unfold opK
        dsimp only
        rw [if_neg h1]
      refine ⟨rfl, e1.symm, ?_, HN.out.2⟩
      rw [if_pos rfl, if_pos rfl, e2]
      exact HN.out.1
set_option maxRecDepth 100000 in
set_option maxHeartbeats 8000000 in
theorem dvErI (X F G n : Nat) (ks : List FkR) (x : Int) (ops : Int) (fa : Option Addr) (m fc : Nat) (fs : List FtD) (down : Bool) (w0 w : World) (hn : n ≤ 1048576) (h : DO w0 w X F G n ks ops fa m fc down) (hfr : FR w fa m fs) (ho : 0 ≤ ops ∧ ops < 100000) (hfs : ∀ t ∈ fs, ftOk t = true) (hw : ∀ f ∈ ks, 0 ≤ f.wear ∧ f.wear ≤ 100000) :
    Calls Tryz.prog 60 #[.pointer (some ⟨X, 0, none⟩), .int .i64 x] w (EvA w0 w X F G n (erC ks x) ks (erAt ks x.toNat) (badAt ks x.toNat) (tornAt ks x.toNat) (faD ops fs) ops fa m fc down) := by
  have hcall := bteI F G n ks x w0 w hn h.fo
  have x0 := h.x.cell 0
  simp at x0
  have hXw := h.x.lt
  by_cases hc : erC ks x = 0
  · obtain ⟨k, f, rfl, hf⟩ := btc_zero (fs := ks) (x := x) (by unfold erC at hc; split at hc <;> assumption)
    rw [if_pos hc, hc, errV_zero, Int.toNat_natCast] at hcall
    rw [hc, Int.toNat_natCast]
    have b1 : Below w.heap.size w (w.alloc (.cells #[.pointer (some ⟨G, k * 18, none⟩)] 127)) := (Below.refl _ _).alloc (Nat.le_refl _) _
    have zK := Blk.new w 127 #[.pointer (some ⟨G, k * 18, none⟩)]
    have hcall2 := opErI X F G n k w.heap.size ks f ops fa m fc fs down w0 _ (h.keep b1) (hfr.keep b1) ho hfs hf (hw f (List.mem_of_getElem? hf)) zK (by omega)
    generalize hGP : EvA w0 w X F G n 0 ks (erAt ks k) (badAt ks k) (tornAt ks k) (faD ops fs) ops fa m fc down = P
    have HGP : Hid _ := hGP
    have HB1 : Hid _ := b1
    obtain ⟨H, hH⟩ : ∃ H, w.heap.size = H := ⟨_, rfl⟩
    rw [hH] at hcall2
    have hmf : ∀ (fn : Fn) (first cap : Array Value) (w : World), (Instr.makeFunc fn first cap).run Tryz.prog w = .ok (.func fn first cap) w := fun _ _ _ _ => rfl
    clear hc hf hfr hfs hw h b1 zK hGP
    go_enter Tryz.func60, Tryz.ntmps60
    go_wp2_with fail
    refine hcall.mono ?_
    rintro e w1 ⟨rfl, hw1⟩
    obtain rfl := hw1.symm
    go_wp2_with fail
    refine hcall2.mono ?_
    rintro e w2 ⟨he, d2, sv2⟩
    have HA : Hid (EvA w0 w X F G n 0 ks (erAt ks k) (badAt ks k) (tornAt ks k) (faD ops fs) ops fa m fc down e w2) := ⟨he, d2, (Below.sv HB1.out _).trans sv2⟩
    have HA2 : Hid (P e w2) := by show P e w2; rw [← HGP.out]; exact HA.out
    clear d2 sv2 hcall hcall2 hXw HGP HA
    rcases evEnd_cases 0 (faD ops fs) with ⟨v, e1, (rfl | ⟨c, rfl⟩)⟩ | e1
    · rw [e1] at he
      subst he
      go_wp2
      exact HA2.out
    · rw [e1] at he
      subst he
      go_wp2
      exact HA2.out
    · rw [e1] at he
      subst he
      go_wp2
      first | exact HA2.out | exact ⟨rfl, HA2.out⟩
  · rw [if_neg hc, errV_some hc] at hcall
    generalize hGP : EvA w0 w X F G n (erC ks x) ks (erAt ks x.toNat) (badAt ks x.toNat) (tornAt ks x.toNat) (faD ops fs) ops fa m fc down = P
    have HGP : Hid _ := hGP
    have b1 : Below w.heap.size w (w.alloc (.cells #[.pointer none] 127)) := (Below.refl _ _).alloc (Nat.le_refl _) _
    have HN : Hid _ := And.intro (h.keep b1) (Below.sv b1 [X, G])
    have HC : Hid _ := hc
    obtain ⟨c, hcc⟩ : ∃ c, erC ks x = c := ⟨_, rfl⟩
    have HCC : Hid _ := hcc
    rw [hcc] at hcall
    clear hGP h hfr hfs hw b1 hc hcc
    go_enter Tryz.func60, Tryz.ntmps60
    go_wp2_with fail
    refine hcall.mono ?_
    rintro e w1 ⟨rfl, hw1⟩
    obtain rfl := hw1.symm
    go_wp2
    rw [← HGP.out]
    have h1 := HC.out
    refine ⟨?_, ?_, HN.out.2⟩
    · unfold evEnd
      rw [if_neg h1, errV_some h1, HCC.out]
      rfl
    · rw [if_neg h1, if_neg h1]
      exact HN.out.1
set_option maxRecDepth 100000 in
set_option maxHeartbeats 4000000 in
theorem ev_through {X F G n B : Nat} {ks kA kB : List FkR} {kC : Int → List FkR} {x cd : Int} {o : Option FtD} {ops : Int} {fa : Option Addr} {m fc : Nat} {down : Bool} {w0 w : World} (x0 : w.cell? ⟨B, 0, none⟩ = some (.int .i64 x)) (hcall : Calls Tryz.prog 60 #[.pointer (some ⟨X, 0, none⟩), .int .i64 x] w (EvA w0 w X F G n cd ks kA kB kC o ops fa m fc down)) :
    Calls Tryz.prog 59 #[.pointer (some ⟨X, 0, none⟩), .pointer (some ⟨B, 0, none⟩)] w (EvA w0 w X F G n cd ks kA kB kC o ops fa m fc down) := by
  generalize hGP : EvA w0 w X F G n cd ks kA kB kC o ops fa m fc down = P at hcall ⊢
  have HGP : Hid _ := hGP
  clear hGP
  go_enter Tryz.func59, Tryz.ntmps59
  go_wp2_with fail
  refine hcall.mono ?_
  intro e w1 hA
  have HA : Hid _ := hA
  rw [← HGP.out] at hA
  obtain ⟨he, _, _⟩ := hA
  clear HGP hcall
  rcases evEnd_cases cd o with ⟨v, e1, (rfl | ⟨c, rfl⟩)⟩ | e1
  · rw [e1] at he
    subst he
    go_wp2
    exact HA.out
  · rw [e1] at he
    subst he
    go_wp2
    exact HA.out
  · rw [e1] at he
    subst he
    go_wp2
    first | exact HA.out | exact ⟨rfl, HA.out⟩
set_option maxRecDepth 100000 in
set_option maxHeartbeats 4000000 in
theorem dvEr1I (X F G n B : Nat) (ks : List FkR) (x : Int) (ops : Int) (fa : Option Addr) (m fc : Nat) (fs : List FtD) (down : Bool) (w0 w : World) (hn : n ≤ 1048576) (h : DO w0 w X F G n ks ops fa m fc down) (hfr : FR w fa m fs) (ho : 0 ≤ ops ∧ ops < 100000) (hfs : ∀ t ∈ fs, ftOk t = true) (hw : ∀ f ∈ ks, 0 ≤ f.wear ∧ f.wear ≤ 100000) (hB : Blk w B 3 #[.int .i64 x]) :
    Calls Tryz.prog 59 #[.pointer (some ⟨X, 0, none⟩), .pointer (some ⟨B, 0, none⟩)] w (EvA w0 w X F G n (erC ks x) ks (erAt ks x.toNat) (badAt ks x.toNat) (tornAt ks x.toNat) (faD ops fs) ops fa m fc down) := by
  have hcall := dvErI X F G n ks x ops fa m fc fs down w0 w hn h hfr ho hfs hw
  have x0 := hB.cell 0
  simp at x0
  generalize erC ks x = cd at hcall ⊢
  generalize erAt ks x.toNat = kA at hcall ⊢
  generalize badAt ks x.toNat = kB at hcall ⊢
  generalize tornAt ks x.toNat = kC at hcall ⊢
  exact ev_through x0 hcall
end

section
open Go.RowKit
theorem FlGood.er {w : World} {ks : List FkR} (k : Nat) (h : FlGood w ks) : FlGood w (erAt ks k) := by
  unfold erAt
  split
  · rename_i f hf
    refine h.set hf (fun p hp => ?_) ?_
    · have : p ∈ List.replicate 8 pgZ := hp
      rw [List.mem_replicate] at this
      rw [this.2]
      exact .inl rfl
    · have := totP_eight f
      have h8 : totP ((List.replicate 8 pgZ).map PgR.D) = 8 := rfl
      show totP ((List.replicate 8 pgZ).map PgR.D) ≤ _
      omega
  · exact h
theorem erAt_D (ks : List FkR) (k : Nat) : (erAt ks k).map FkR.D = eraseAt (ks.map FkR.D) k := by
  unfold erAt eraseAt
  rw [List.getElem?_map]
  cases hk : ks[k]? with
  | none => rfl
  | some f => simp only [Option.map_some]; rw [List.map_set]; rfl
theorem tornAt_D (ks : List FkR) (k : Nat) (kp : Int) : (tornAt ks k kp).map FkR.D = tornD (ks.map FkR.D) k kp := by
  unfold tornAt tornD
  rw [List.getElem?_map]
  cases hk : ks[k]? with
  | none => rfl
  | some f =>
    simp only [Option.map_some]
    rw [List.map_set]
    congr 1
    show (⟨(pgsT (min kp.toNat 8)).map PgR.D, f.wear + 1, f.bad⟩ : BkD) = _
    rw [pgsT_D]
    rfl
end

section
open Go.RowKit
theorem len_bad (ds : List BkD) (k : Nat) : (badD ds k).length = ds.length := by
  unfold badD
  split
  · simp
  · rfl
end

section
open Go.RowKit
theorem evC_zero {ds : List BkD} {ops : Int} {fs : List FtD} {down : Bool} {c : Int} (h : evCode ds ops fs down c = 0) : devB ds ops fs = true ∧ down = false ∧ ops < 100000 ∧ c = 0 := by
  unfold evCode at h
  split at h
  · omega
  · rename_i h1
    split at h
    · omega
    · rename_i h2
      refine ⟨by simpa using h1, ?_, by omega, h⟩
      cases down
      · rfl
      · exact absurd (.inl rfl) h2
theorem codeE_zero {ds : List BkD} {x : Int} (h : codeE true ds x = 0) : ∃ (k : Nat) (b : BkD), x = (k : Int) ∧ ds[k]? = some b := by
  unfold codeE mayD at h
  split at h
  · omega
  · rename_i h1
    have h2 : 0 ≤ x ∧ x < (ds.length : Int) := by
      constructor
      · rcases Int.lt_or_le x 0 with h3 | h3
        · exact absurd (.inr (.inl h3)) h1
        · exact h3
      · rcases Int.lt_or_le x (ds.length : Int) with h3 | h3
        · exact h3
        · exact absurd (.inr (.inr h3)) h1
    exact ⟨x.toNat, ds[x.toNat]'(by omega), by omega, List.getElem?_eq_getElem (by omega)⟩
/-- What DevErase leaves and answers. -/
def ErP (ds : List BkD) (ops : Int) (fs : List FtD) (down : Bool) (x : Int) (ds' : List BkD) (ops' : Int) (down' : Bool) (code : Int) : Prop :=
  (ds' = ds ∧ ops' = ops ∧ down' = down ∧ code ≠ 0) ∨
  (ops' = ops + 1 ∧ devB ds' ops' fs = true ∧ ∃ (k : Nat) (b : BkD), x = (k : Int) ∧ ds[k]? = some b ∧
    ((code = 0 ∧ nextD ds' (k : Int) = 0) ∨ (code = 2 ∧ ds' = badD ds k ∧ nextD ds' (k : Int) = nextD ds (k : Int)) ∨ (code = 10 ∧ down' = true ∧ ∀ i : Nat, i < 8 → (readD ds' (k : Int) (i : Int)).getD [] = [])))
theorem er_out (ds : List BkD) (ops : Int) (fs : List FtD) (down : Bool) (x : Int) :
    ErP ds ops fs down x (outDs (evCode ds ops fs down (codeE true ds x)) (faD ops fs) ds (eraseAt ds x.toNat) (badD ds x.toNat) (tornD ds x.toNat)) (outOps (evCode ds ops fs down (codeE true ds x)) ops) (outDown (evCode ds ops fs down (codeE true ds x)) (faD ops fs) down) (outCode (evCode ds ops fs down (codeE true ds x)) (faD ops fs)) := by
  by_cases hc : evCode ds ops fs down (codeE true ds x) = 0
  · obtain ⟨hd, hdn, hop, hce⟩ := evC_zero hc
    have hk := erase_keep (down := down) (x := x) hd
    obtain ⟨k, b, rfl, hb⟩ := codeE_zero hce
    have hkl : k < ds.length := (List.getElem?_eq_some_iff.1 hb).1
    right
    rw [hc] at hk ⊢
    refine ⟨rfl, hk, k, b, rfl, hb, ?_⟩
    unfold outDs outDown outCode
    simp only [if_true, Int.toNat_natCast]
    cases faD ops fs with
    | none =>
      left
      refine ⟨rfl, ?_⟩
      unfold eraseAt nextD
      rw [hb]
      dsimp only
      rw [if_pos (by omega), Int.toNat_natCast, List.getElem?_set_self hkl]
      simp [nextP]
    | some f =>
      dsimp only
      by_cases hf : f.kd = 1
      · right; left
        rw [if_pos hf, if_pos hf]
        refine ⟨rfl, rfl, ?_⟩
        unfold badD nextD
        rw [hb]
        dsimp only
        rw [if_pos (by omega), Int.toNat_natCast, List.getElem?_set_self hkl, if_pos (by omega), hb]
      · right; right
        rw [if_neg hf, if_neg hf, if_neg hf]
        refine ⟨rfl, rfl, fun i hi => ?_⟩
        unfold tornD readD
        rw [hb]
        dsimp only
        rw [if_pos (by omega)]
        simp only [Int.toNat_natCast]
        rw [List.getElem?_set_self hkl]
        dsimp only
        rw [List.getElem?_map, List.getElem?_range hi]
        dsimp only [Option.map]
        split <;> rfl
  · left
    unfold outDs outOps outDown outCode
    rw [if_neg hc, if_neg hc, if_neg hc, if_neg hc]
    exact ⟨rfl, rfl, rfl, hc⟩
end

section
open Go.RowKit
set_option maxRecDepth 100000 in
set_option maxHeartbeats 16000000 in
theorem behE (a : Option Addr) (n cap B : Nat) (bs : List BkR) (ops : Int) (fa : Option Addr) (m fc : Nat) (fs : List FtD) (down : Bool) (x : Int) (w : World) (ht : CR w a n bs) (hf : FR w fa m fs) (hB : Blk w B 3 #[.int .i64 x]) (hE : EtCell w) :
    Calls Tryz.prog 48 #[.agg #[.slice a n cap, .int .i64 ops, .slice fa m fc, .bool down], .func (.func 59) #[] #[.pointer (some ⟨B, 0, none⟩)]] w (DvCA w ⟨outDs (evCode (bs.map BkR.D) ops fs down (codeE true (bs.map BkR.D) x)) (faD ops fs) (bs.map BkR.D) (eraseAt (bs.map BkR.D) x.toNat) (badD (bs.map BkR.D) x.toNat) (tornD (bs.map BkR.D) x.toNat), outOps (evCode (bs.map BkR.D) ops fs down (codeE true (bs.map BkR.D) x)) ops, fs, outDown (evCode (bs.map BkR.D) ops fs down (codeE true (bs.map BkR.D) x)) (faD ops fs) down⟩ (outCode (evCode (bs.map BkR.D) ops fs down (codeE true (bs.map BkR.D) x)) (faD ops fs))) := by
  have hnn := ht.n
  have B0 : Below w.heap.size w (((w.alloc (.cells #[.slice a n cap, .int .i64 ops, .slice fa m fc, .bool down] 29)).alloc (.cells #[.slice none 0 0, .int .i64 0, .slice none 0 0, .bool false] 29)).alloc (.cells #[.int .i64 0] 3)) := (((Below.refl _ w).alloc (Nat.le_refl _) _).alloc (by simp) _).alloc (by simp; omega) _
  have z0 := ((Blk.new w 29 #[.slice a n cap, .int .i64 ops, .slice fa m fc, .bool down]).alloc (.cells #[.slice none 0 0, .int .i64 0, .slice none 0 0, .bool false] 29)).alloc (.cells #[.int .i64 0] 3)
  have z1 := (Blk.new (w.alloc (.cells #[.slice a n cap, .int .i64 ops, .slice fa m fc, .bool down] 29)) 29 #[.slice none 0 0, .int .i64 0, .slice none 0 0, .bool false]).alloc (.cells #[.int .i64 0] 3)
  have z5 := Blk.new ((w.alloc (.cells #[.slice a n cap, .int .i64 ops, .slice fa m fc, .bool down] 29)).alloc (.cells #[.slice none 0 0, .int .i64 0, .slice none 0 0, .bool false] 29)) 3 #[.int .i64 0]
  simp only [World.size_alloc] at z1 z5
  have hws : (((w.alloc (.cells #[.slice a n cap, .int .i64 ops, .slice fa m fc, .bool down] 29)).alloc (.cells #[.slice none 0 0, .int .i64 0, .slice none 0 0, .bool false] 29)).alloc (.cells #[.int .i64 0] 3)).heap.size = w.heap.size + 1 + 1 + 1 := by simp
  obtain ⟨H, hH⟩ : ∃ H, w.heap.size = H := ⟨_, rfl⟩
  have HH : Hid (w.heap.size = H) := hH
  rw [hH] at z0 z1 z5 hws
  obtain ⟨CD, hCD⟩ : ∃ c, evCode (bs.map BkR.D) ops fs down (codeE true (bs.map BkR.D) x) = c := ⟨_, rfl⟩
  rw [hCD]
  have HCD0 : Hid _ := hCD
  generalize hGP : DvCA w ⟨outDs CD (faD ops fs) (bs.map BkR.D) (eraseAt (bs.map BkR.D) x.toNat) (badD (bs.map BkR.D) x.toNat) (tornD (bs.map BkR.D) x.toNat), outOps CD ops, fs, outDown CD (faD ops fs) down⟩ (outCode CD (faD ops fs)) = P
  have HGP : Hid _ := hGP
  have hok := fun (W : World) (h1 : CR W a n bs) (h2 : FR W fa m fs) => devOkI a n cap bs ops fa m fc fs down W h1 h2
  obtain ⟨ok, hokk⟩ : ∃ ok, devB (bs.map BkR.D) ops fs = ok := ⟨_, rfl⟩
  rw [hokk] at hok
  have HOK : Hid _ := hokk
  have COK : Hid _ := hok
  have hmf : ∀ (fn : Fn) (first cap : Array Value) (w : World), (Instr.makeFunc fn first cap).run Tryz.prog w = .ok (.func fn first cap) w := fun _ _ _ _ => rfl
  clear hGP hCD hokk hok
  go_enter_defers Tryz.func48, Tryz.ntmps48
  go_upto_region 1 with fail
  obtain ⟨W0, hW0⟩ : ∃ W, ((w.alloc (.cells #[.slice a n cap, .int .i64 ops, .slice fa m fc, .bool down] 29)).alloc (.cells #[.slice none 0 0, .int .i64 0, .slice none 0 0, .bool false] 29)).alloc (.cells #[.int .i64 0] 3) = W := ⟨_, rfl⟩
  rw [hW0] at B0 z0 z1 z5 hws ⊢
  try rw [hH]
  clear hW0 hH
  have HW : Hid _ := hws
  have HT : Hid (CR W0 a n bs) := ht.keep B0
  have HF : Hid (FR W0 fa m fs) := hf.keep B0
  have HB0 : Hid (Below w.heap.size w W0) := B0
  have HZ0 : Hid (Blk W0 H 29 #[.slice a n cap, .int .i64 ops, .slice fa m fc, .bool down]) := z0
  have HZ1 : Hid (Blk W0 (H + 1) 29 #[.slice none 0 0, .int .i64 0, .slice none 0 0, .bool false]) := z1
  have HZ5 : Hid (Blk W0 (H + 1 + 1) 3 #[.int .i64 0]) := z5
  have HBB : Hid _ := hB.keep B0
  have HE : Hid (EtCell W0) := hE.keep B0
  have x0 := z0.cell 0
  have x1 := z0.cell 1
  have x2 := z0.cell 2
  have x3 := z0.cell 3
  simp at x0 x1 x2 x3
  clear ht hf B0 z0 z1 z5 hB hE
  go_wp2_with fail
  refine (COK.out W0 HT.out HF.out).mono ?_
  rintro e w1 ⟨rfl, b1⟩
  have y0 := (Blk.keep HZ0.out b1).cell 0
  have y1 := (Blk.keep HZ0.out b1).cell 1
  have y2 := (Blk.keep HZ0.out b1).cell 2
  have y3 := (Blk.keep HZ0.out b1).cell 3
  simp at y0 y1 y2 y3
  clear x0 x1 x2 x3
  cases ok with
  | false =>
    have HCD : Hid (CD = 1) := by show _ = _; rw [← HCD0.out]; unfold evCode; rw [if_pos HOK.out]
    go_wp2_with fail
    refine (copyDevI a n cap bs ops fa m fc fs down w1 (HT.out.keep b1) (HF.out.keep b1)).mono ?_
    rintro e w2 ⟨aC, nC, cC, fC, mC, kC, tC, rfl, qC, hlC, b2⟩
    dsimp only at qC ⊢
    have B2 : Below W0.heap.size W0 w2 := b1.trans (b2.mono b1.size)
    have zr := Blk.keep HZ1.out B2
    have z5 := Blk.keep HZ5.out B2
    have r0 := zr.cell 0
    have r1 := zr.cell 1
    have r2 := zr.cell 2
    have r3 := zr.cell 3
    have f0 := zr.frozen 0
    have f1 := zr.frozen 1
    have f2 := zr.frozen 2
    have f3 := zr.frozen 3
    have zf := (((zr.set 0 (.slice aC nC cC)).set 1 (.int .i64 ops)).set 2 (.slice fC mC kC)).set 3 (.bool down)
    have t5 := (((z5.other (B' := H + 1) (by omega) 0 (.slice aC nC cC)).other (B' := H + 1) (by omega) 1 (.int .i64 ops)).other (B' := H + 1) (by omega) 2 (.slice fC mC kC)).other (B' := H + 1) (by omega) 3 (.bool down)
    have k0 := t5.cell 0
    have kf := t5.frozen 0
    have zf4 := zf.other (B' := H + 1 + 1) (by omega) 0 (.int .i64 1)
    have zf5 := t5.set 0 (.int .i64 1)
    have d0 := zf4.cell 0
    have d1 := zf4.cell 1
    have d2 := zf4.cell 2
    have d3 := zf4.cell 3
    have d4 := zf5.cell 0
    simp at r0 r1 r2 r3 k0 d0 d1 d2 d3 d4
    have HQ : Hid _ := And.intro qC (And.intro hlC B2)
    have HB1 : Hid (W0.heap.size ≤ w1.heap.size) := b1.size
    clear qC b1 b2 B2 zr zf hlC z5 t5 zf4 zf5 y0 y1 y2 y3
    go_wp2
    refine ⟨.tuple #[.agg #[.slice aC nC cC, .int .i64 ops, .slice fC mC kC, .bool down], .int .i64 1], by simp [results, Tryz.f48, go_sem, d0, d1, d2, d3, d4], ?_⟩
    rw [← HGP.out]
    have hcd := HCD.out
    have hw := HW.out
    have hH := HH.out
    obtain ⟨q, hl, B2⟩ := HQ.out
    have hb1 := HB1.out
    have bel : Below w.heap.size w w2 := HB0.out.trans (B2.mono HB0.out.size)
    rw [outs_no hcd (by decide)]
    have k : ∀ (W : World) (j i : Nat) (v : Value), j < w1.heap.size → NewDv W w1.heap.size aC nC cC fC mC kC (bs.map BkR.D) fs tC → NewDv (W.setCell ⟨j, i, none⟩ v) w1.heap.size aC nC cC fC mC kC (bs.map BkR.D) fs tC := fun W j i v hj h => h.set_below hj
    have s : ∀ (W : World) (j i : Nat) (v : Value), w.heap.size ≤ j → Below w.heap.size w W → Below w.heap.size w (W.setCell ⟨j, i, none⟩ v) := fun W j i v hj hb => hb.setCell (p := ⟨j, i, none⟩) hj v
    exact ⟨aC, nC, cC, fC, mC, kC, tC, rfl, (k _ _ _ _ (by omega) (k _ _ _ _ (by omega) (k _ _ _ _ (by omega) (k _ _ _ _ (by omega) (k _ _ _ _ (by omega) q))))).wider (by omega), hl, s _ _ _ _ (by omega) (s _ _ _ _ (by omega) (s _ _ _ _ (by omega) (s _ _ _ _ (by omega) (s _ _ _ _ (by omega) bel))))⟩
  | true =>
    have hdv := HOK.out
    unfold devB at hdv
    simp only [Bool.and_eq_true, decide_eq_true_eq] at hdv
    obtain ⟨⟨hck, hop0, hop1⟩, hfB⟩ := hdv
    by_cases hoff : down = true ∨ 100000 ≤ ops
    · have HCD : Hid (CD = 10) := by show _ = _; rw [← HCD0.out]; unfold evCode; rw [if_neg (by rw [HOK.out]; simp), if_pos hoff]
      have HOFF : Hid (down = true ∨ ops = 100000) := by rcases hoff with h | h; exact .inl h; exact .inr (by omega)
      clear hck hfB hoff hop0 hop1
      have hgo : (down = true) ∨ (down = false ∧ ops = 100000) := by
        rcases HOFF.out with h | h
        · exact .inl h
        · cases down
          · exact .inr ⟨rfl, h⟩
          · exact .inl rfl
      rcases hgo with hgo | ⟨hgo, hgo2⟩
      · subst hgo
        go_wp2_with fail
        refine (copyDevI a n cap bs ops fa m fc fs true w1 (HT.out.keep b1) (HF.out.keep b1)).mono ?_
        rintro e w2 ⟨aC, nC, cC, fC, mC, kC, tC, rfl, qC, hlC, b2⟩
        dsimp only at qC ⊢
        have B2 : Below W0.heap.size W0 w2 := b1.trans (b2.mono b1.size)
        have zr := Blk.keep HZ1.out B2
        have z5 := Blk.keep HZ5.out B2
        have r0 := zr.cell 0
        have r1 := zr.cell 1
        have r2 := zr.cell 2
        have r3 := zr.cell 3
        have f0 := zr.frozen 0
        have f1 := zr.frozen 1
        have f2 := zr.frozen 2
        have f3 := zr.frozen 3
        have zf := (((zr.set 0 (.slice aC nC cC)).set 1 (.int .i64 ops)).set 2 (.slice fC mC kC)).set 3 (.bool true)
        have t5 := (((z5.other (B' := H + 1) (by omega) 0 (.slice aC nC cC)).other (B' := H + 1) (by omega) 1 (.int .i64 ops)).other (B' := H + 1) (by omega) 2 (.slice fC mC kC)).other (B' := H + 1) (by omega) 3 (.bool true)
        have k0 := t5.cell 0
        have kf := t5.frozen 0
        have zf4 := zf.other (B' := H + 1 + 1) (by omega) 0 (.int .i64 10)
        have zf5 := t5.set 0 (.int .i64 10)
        have d0 := zf4.cell 0
        have d1 := zf4.cell 1
        have d2 := zf4.cell 2
        have d3 := zf4.cell 3
        have d4 := zf5.cell 0
        simp at r0 r1 r2 r3 k0 d0 d1 d2 d3 d4
        have HQ : Hid _ := And.intro qC (And.intro hlC B2)
        have HB1 : Hid (W0.heap.size ≤ w1.heap.size) := b1.size
        clear qC b1 b2 B2 zr zf hlC z5 t5 zf4 zf5 y0 y1 y2 y3
        go_wp2
        refine ⟨.tuple #[.agg #[.slice aC nC cC, .int .i64 ops, .slice fC mC kC, .bool true], .int .i64 10], by simp [results, Tryz.f48, go_sem, d0, d1, d2, d3, d4], ?_⟩
        rw [← HGP.out]
        have hcd := HCD.out
        have hw := HW.out
        have hH := HH.out
        obtain ⟨q, hl, B2⟩ := HQ.out
        have hb1 := HB1.out
        have bel : Below w.heap.size w w2 := HB0.out.trans (B2.mono HB0.out.size)
        rw [outs_no hcd (by decide)]
        have k : ∀ (W : World) (j i : Nat) (v : Value), j < w1.heap.size → NewDv W w1.heap.size aC nC cC fC mC kC (bs.map BkR.D) fs tC → NewDv (W.setCell ⟨j, i, none⟩ v) w1.heap.size aC nC cC fC mC kC (bs.map BkR.D) fs tC := fun W j i v hj h => h.set_below hj
        have s : ∀ (W : World) (j i : Nat) (v : Value), w.heap.size ≤ j → Below w.heap.size w W → Below w.heap.size w (W.setCell ⟨j, i, none⟩ v) := fun W j i v hj hb => hb.setCell (p := ⟨j, i, none⟩) hj v
        exact ⟨aC, nC, cC, fC, mC, kC, tC, rfl, (k _ _ _ _ (by omega) (k _ _ _ _ (by omega) (k _ _ _ _ (by omega) (k _ _ _ _ (by omega) (k _ _ _ _ (by omega) q))))).wider (by omega), hl, s _ _ _ _ (by omega) (s _ _ _ _ (by omega) (s _ _ _ _ (by omega) (s _ _ _ _ (by omega) (s _ _ _ _ (by omega) bel))))⟩
      · subst hgo hgo2
        go_wp2_with fail
        refine (copyDevI a n cap bs 100000 fa m fc fs false w1 (HT.out.keep b1) (HF.out.keep b1)).mono ?_
        rintro e w2 ⟨aC, nC, cC, fC, mC, kC, tC, rfl, qC, hlC, b2⟩
        dsimp only at qC ⊢
        have B2 : Below W0.heap.size W0 w2 := b1.trans (b2.mono b1.size)
        have zr := Blk.keep HZ1.out B2
        have z5 := Blk.keep HZ5.out B2
        have r0 := zr.cell 0
        have r1 := zr.cell 1
        have r2 := zr.cell 2
        have r3 := zr.cell 3
        have f0 := zr.frozen 0
        have f1 := zr.frozen 1
        have f2 := zr.frozen 2
        have f3 := zr.frozen 3
        have zf := (((zr.set 0 (.slice aC nC cC)).set 1 (.int .i64 100000)).set 2 (.slice fC mC kC)).set 3 (.bool false)
        have t5 := (((z5.other (B' := H + 1) (by omega) 0 (.slice aC nC cC)).other (B' := H + 1) (by omega) 1 (.int .i64 100000)).other (B' := H + 1) (by omega) 2 (.slice fC mC kC)).other (B' := H + 1) (by omega) 3 (.bool false)
        have k0 := t5.cell 0
        have kf := t5.frozen 0
        have zf4 := zf.other (B' := H + 1 + 1) (by omega) 0 (.int .i64 10)
        have zf5 := t5.set 0 (.int .i64 10)
        have d0 := zf4.cell 0
        have d1 := zf4.cell 1
        have d2 := zf4.cell 2
        have d3 := zf4.cell 3
        have d4 := zf5.cell 0
        simp at r0 r1 r2 r3 k0 d0 d1 d2 d3 d4
        have HQ : Hid _ := And.intro qC (And.intro hlC B2)
        have HB1 : Hid (W0.heap.size ≤ w1.heap.size) := b1.size
        clear qC b1 b2 B2 zr zf hlC z5 t5 zf4 zf5 y0 y1 y2 y3
        go_wp2
        refine ⟨.tuple #[.agg #[.slice aC nC cC, .int .i64 100000, .slice fC mC kC, .bool false], .int .i64 10], by simp [results, Tryz.f48, go_sem, d0, d1, d2, d3, d4], ?_⟩
        rw [← HGP.out]
        have hcd := HCD.out
        have hw := HW.out
        have hH := HH.out
        obtain ⟨q, hl, B2⟩ := HQ.out
        have hb1 := HB1.out
        have bel : Below w.heap.size w w2 := HB0.out.trans (B2.mono HB0.out.size)
        rw [outs_no hcd (by decide)]
        have k : ∀ (W : World) (j i : Nat) (v : Value), j < w1.heap.size → NewDv W w1.heap.size aC nC cC fC mC kC (bs.map BkR.D) fs tC → NewDv (W.setCell ⟨j, i, none⟩ v) w1.heap.size aC nC cC fC mC kC (bs.map BkR.D) fs tC := fun W j i v hj h => h.set_below hj
        have s : ∀ (W : World) (j i : Nat) (v : Value), w.heap.size ≤ j → Below w.heap.size w W → Below w.heap.size w (W.setCell ⟨j, i, none⟩ v) := fun W j i v hj hb => hb.setCell (p := ⟨j, i, none⟩) hj v
        exact ⟨aC, nC, cC, fC, mC, kC, tC, rfl, (k _ _ _ _ (by omega) (k _ _ _ _ (by omega) (k _ _ _ _ (by omega) (k _ _ _ _ (by omega) (k _ _ _ _ (by omega) q))))).wider (by omega), hl, s _ _ _ _ (by omega) (s _ _ _ _ (by omega) (s _ _ _ _ (by omega) (s _ _ _ _ (by omega) (s _ _ _ _ (by omega) bel))))⟩
    · have hdn : down = false := by cases down; rfl; exact absurd (.inl rfl) hoff
      subst hdn
      have hop : 0 ≤ ops ∧ ops < 100000 := by omega
      have hne : (ops == 100000) = false := by simp; omega
      obtain ⟨ks, hfl, hfw⟩ := ok_flash hck
      have HCD : Hid (CD = codeE true (bs.map BkR.D) x) := by show _ = _; rw [← HCD0.out]; unfold evCode; rw [if_neg (by rw [HOK.out]; simp), if_neg hoff]
      have hfsok : ∀ t ∈ fs, ftOk t = true := by
        rw [faultsB_asc] at hfB
        simp only [Bool.and_eq_true] at hfB
        exact List.all_eq_true.1 hfB.2.1
      clear hck hfB hoff hop0 hop1
      go_wp2_with fail
      refine (deviceOfI a n cap bs ks ops fa m fc false w1 (HT.out.keep b1) hfl).mono ?_
      rintro e w2 ⟨X, F, G, rfl, do2⟩
      clear y0 y1 y2 y3
      have b2 := do2.fo.bel
      have b3 : Below w2.heap.size w2 (w2.alloc (.cells #[.pointer (some ⟨X, 0, none⟩)] 82)) := (Below.refl _ _).alloc (Nat.le_refl _) _
      have z6 := Blk.new w2 82 #[.pointer (some ⟨X, 0, none⟩)]
      have do3 := do2.keep b3
      have hXP : X < w2.heap.size := do2.x.lt
      have hGP6 : G < w2.heap.size := do2.fo.g.lt (g := G) rfl
      obtain ⟨P6, hP6⟩ : ∃ P, w2.heap.size = P := ⟨_, rfl⟩
      have B13 := b2.trans (b3.mono b2.size)
      rw [hP6] at z6 hXP hGP6
      clear do2 b2
      go_upto_region 7 with fail
      obtain ⟨w3, hw3⟩ : ∃ W, w2.alloc (.cells #[.pointer (some ⟨X, 0, none⟩)] 82) = W := ⟨_, rfl⟩
      rw [hw3] at b3 z6 do3 B13 ⊢
      try rw [hP6]
      clear hw3 b3 hP6
      have x6 := z6.cell 0
      simp at x6
      have FR3 : FR w3 fa m fs := (HF.out.keep b1).keep B13
      have hB3 := (Blk.keep HBB.out b1).keep B13
      have hcall := dvEr1I X F G n B ks x ops fa m fc fs false w1 w3 hnn do3 FR3 hop hfsok hfw hB3
      have hcd : CD = erC ks x := HCD.out.trans (er_code hfl hfw x).symm
      have hg1 : FlGood w1 ks := ⟨fl_rd (HT.out.keep b1) hfl, by rw [hfl.D]; exact HT.out.tot⟩
      have hg : FlGood w1 (if erC ks x = 0 then opK (erAt ks x.toNat) (badAt ks x.toNat) (tornAt ks x.toNat) (faD ops fs) else ks) := opK_all _ _ hg1 (hg1.er _) (hg1.bad _) (fun t => hg1.torn _ t)
      have hD : (if erC ks x = 0 then opK (erAt ks x.toNat) (badAt ks x.toNat) (tornAt ks x.toNat) (faD ops fs) else ks).map FkR.D = outDs CD (faD ops fs) (bs.map BkR.D) (eraseAt (bs.map BkR.D) x.toNat) (badD (bs.map BkR.D) x.toNat) (tornD (bs.map BkR.D) x.toNat) := by
        rw [opK_D, hcd]
        simp only [erAt_D, badAt_D, tornAt_D, hfl.D]
      have hO : (if erC ks x = 0 then ops + 1 else ops) = outOps CD ops := by rw [hcd]; rfl
      have HFF : Hid (∀ W : World, Below w1.heap.size w1 W → FR W fa m fs) := fun W h => (HF.out.keep b1).keep h
      have HZ1w : Hid (Blk w1 (H + 1) 29 #[.slice none 0 0, .int .i64 0, .slice none 0 0, .bool false]) := Blk.keep HZ1.out b1
      have HZ5w : Hid (Blk w1 (H + 1 + 1) 3 #[.int .i64 0]) := Blk.keep HZ5.out b1
      have HEw : Hid (EtCell w1) := HE.out.keep b1
      have hsW : H + 1 + 1 + 1 ≤ w1.heap.size := by have := b1.size; have := HW.out; omega
      have HBw : Hid (Below w.heap.size w w1) := HB0.out.trans (b1.mono HB0.out.size)
      have hXn : w1.heap.size ≤ X := do3.xn
      have hHw : w.heap.size = H := HH.out
      clear b1 hg1 FR3 hB3 HCD HCD0 HOK COK HT HF HB0 HZ0 HZ1 HZ5 HBB HE hop hfsok
      go_wp2_with fail
      refine hcall.mono ?_
      rintro e w4 ⟨he, do4, sv4⟩
      rw [hO] at do4
      generalize (if erC ks x = 0 then opK (erAt ks x.toNat) (badAt ks x.toNat) (tornAt ks x.toNat) (faD ops fs) else ks) = ks' at hg hD do4
      rw [← hcd] at he
      have B14 : Below w1.heap.size w1 w4 := do4.fo.bel
      have h6 := Blk.svs z6 sv4 (by simp; omega)
      have h4 := Blk.keep HZ1w.out B14
      have h5 := Blk.keep HZ5w.out B14
      have HDD : Hid _ := hD
      have HGG : Hid _ := hg
      clear hcall hO hD hg x6 z6 sv4 do3 hcd hfl hfw
      by_cases hp : panD CD (faD ops fs)
      · obtain ⟨e1, e2, e3⟩ := evEnd_pan hp
        rw [e1] at he
        subst he
        have HEQ : Hid _ := And.intro e2 e3
        have B15 : Below w1.heap.size w1 (w4.setCell ⟨X, 3, none⟩ (.bool true)) := B14.setCell (p := ⟨X, 3, none⟩) hXn _
        have hcat := catchI X F G n P6 (H + 1) (H + 1 + 1) ks' (outOps CD ops) fa m fc fs false 149 (.int .i64 10) [] w1 w4 do4 (HFF.out _ B15) (fun f hf p hp => (HGG.out.1 f hf p hp).keep B15) HGG.out.2 h6 h4 h5 (by omega) (by omega) (by omega) (by omega)
        have HB4 : Hid _ := B14
        clear e1 e2 e3 hp do4 h6 h4 h5 B15 B14
        go_wp2
        refine leaves_cons (f := 95) (args := #[.pointer (some ⟨P6, 0, none⟩), .pointer (some ⟨H + 1, 0, none⟩), .pointer (some ⟨H + 1 + 1, 0, none⟩)]) (by simp) (by simp [go_sem]) ?_
        refine hcat.mono ?_
        rintro e u' w5 ⟨rfl, rfl, aC, nC, cC, fC, mC, kC, tC, hd, hl, z4, z5, sv5⟩
        dsimp only at hd z4 ⊢
        have d0 := z4.cell 0
        have d1 := z4.cell 1
        have d2 := z4.cell 2
        have d3 := z4.cell 3
        have d4 := z5.cell 0
        simp at d0 d1 d2 d3 d4
        refine ⟨.tuple #[.agg #[.slice aC nC cC, .int .i64 (outOps CD ops), .slice fC mC kC, .bool true], .int .i64 10], by simp [results, Tryz.f48, go_sem, d0, d1, d2, d3, d4], ?_⟩
        rw [← HGP.out]
        obtain ⟨e2, e3⟩ := HEQ.out
        rw [e2, e3, ← HDD.out]
        have hb4 := HB4.out
        have hbw := HBw.out
        have bel4 : Below w.heap.size w w4 := hbw.trans (hb4.mono hbw.size)
        have bel : Below w.heap.size w w5 := Below.svs bel4 sv5 (fun g hg => by have := hbw.size; simp at hg; omega) (Nat.le_refl _)
        exact ⟨aC, nC, cC, fC, mC, kC, tC, rfl, hd.wider bel4.size, hl, bel⟩
      · obtain ⟨e1, e3⟩ := evEnd_ret hp
        rw [e1] at he
        subst he
        have HEQ : Hid _ := e3 false
        obtain ⟨c, hc⟩ : ∃ c, outCode CD (faD ops fs) = c := ⟨_, rfl⟩
        rw [hc]
        have HC : Hid _ := hc
        have hho := dvHandI X F G n ks' (outOps CD ops) fa m fc fs false w1 w4 do4 (HFF.out _ B14) (fun f hf p hp => (HGG.out.1 f hf p hp).keep B14) HGG.out.2
        have q6 := h6.cell 0
        simp at q6
        clear e1 e3 hp do4 hc h6
        go_wp2_with fail
        refine hho.mono ?_
        rintro e w5 ⟨aC, nC, cC, fC, mC, kC, tC, rfl, hd, hl, b5⟩
        dsimp only at hd ⊢
        have B15 := B14.trans (b5.mono B14.size)
        clear hho q6
        go_wp2_with fail
        refine (codeOfI c w5 (HEw.out.keep B15)).mono ?_
        rintro e w6 ⟨rfl, b6⟩
        have zr := (h4.keep b5).keep b6
        have z5 := (h5.keep b5).keep b6
        have r0 := zr.cell 0
        have r1 := zr.cell 1
        have r2 := zr.cell 2
        have r3 := zr.cell 3
        have f0 := zr.frozen 0
        have f1 := zr.frozen 1
        have f2 := zr.frozen 2
        have f3 := zr.frozen 3
        have zf := (((zr.set 0 (.slice aC nC cC)).set 1 (.int .i64 (outOps CD ops))).set 2 (.slice fC mC kC)).set 3 (.bool false)
        have t5 := (((z5.other (B' := H + 1) (by omega) 0 (.slice aC nC cC)).other (B' := H + 1) (by omega) 1 (.int .i64 (outOps CD ops))).other (B' := H + 1) (by omega) 2 (.slice fC mC kC)).other (B' := H + 1) (by omega) 3 (.bool false)
        have k0 := t5.cell 0
        have kf := t5.frozen 0
        have zf4 := zf.other (B' := H + 1 + 1) (by omega) 0 (.int .i64 c)
        have zf5 := t5.set 0 (.int .i64 c)
        have d0 := zf4.cell 0
        have d1 := zf4.cell 1
        have d2 := zf4.cell 2
        have d3 := zf4.cell 3
        have d4 := zf5.cell 0
        simp at r0 r1 r2 r3 k0 d0 d1 d2 d3 d4
        have HN : Hid (NewDv w6 w4.heap.size aC nC cC fC mC kC (ks'.map FkR.D) fs tC ∧ tC.length = nC ∧ Below w1.heap.size w1 w6 ∧ w1.heap.size ≤ w4.heap.size) := ⟨hd.keep b6, hl, B15.trans (b6.mono B15.size), B14.size⟩
        clear hd hl b5 b6 B14 B15 zr z5 zf t5 zf4 zf5 h4 h5
        go_wp2
        refine leaves_cons (f := 95) (args := #[.pointer (some ⟨P6, 0, none⟩), .pointer (some ⟨H + 1, 0, none⟩), .pointer (some ⟨H + 1 + 1, 0, none⟩)]) (by simp) (by simp [go_sem]) ?_
        refine (idleI P6 (H + 1) (H + 1 + 1) _).mono ?_
        rintro e u' w7 ⟨rfl, rfl, hw7⟩
        obtain rfl := hw7.symm
        refine ⟨.tuple #[.agg #[.slice aC nC cC, .int .i64 (outOps CD ops), .slice fC mC kC, .bool false], .int .i64 c], by simp [results, Tryz.f48, go_sem, d0, d1, d2, d3, d4], ?_⟩
        rw [← HGP.out, HEQ.out, HC.out, ← HDD.out]
        obtain ⟨q, hl, B16, hw4⟩ := HN.out
        have hbw := HBw.out
        have bel : Below w.heap.size w w6 := hbw.trans (B16.mono hbw.size)
        have k : ∀ (W : World) (j i : Nat) (v : Value), j < w4.heap.size → NewDv W w4.heap.size aC nC cC fC mC kC (ks'.map FkR.D) fs tC → NewDv (W.setCell ⟨j, i, none⟩ v) w4.heap.size aC nC cC fC mC kC (ks'.map FkR.D) fs tC := fun W j i v hj h => h.set_below hj
        have s : ∀ (W : World) (j i : Nat) (v : Value), w.heap.size ≤ j → Below w.heap.size w W → Below w.heap.size w (W.setCell ⟨j, i, none⟩ v) := fun W j i v hj hb => hb.setCell (p := ⟨j, i, none⟩) hj v
        exact ⟨aC, nC, cC, fC, mC, kC, tC, rfl, (k _ _ _ _ (by omega) (k _ _ _ _ (by omega) (k _ _ _ _ (by omega) (k _ _ _ _ (by omega) (k _ _ _ _ (by omega) q))))).wider (by omega), hl, s _ _ _ _ (by omega) (s _ _ _ _ (by omega) (s _ _ _ _ (by omega) (s _ _ _ _ (by omega) (s _ _ _ _ (by omega) bel))))⟩
set_option maxRecDepth 100000 in
set_option maxHeartbeats 4000000 in
theorem devErI (a : Option Addr) (n cap : Nat) (bs : List BkR) (ops : Int) (fa : Option Addr) (m fc : Nat) (fs : List FtD) (down : Bool) (x : Int) (w : World) (ht : CR w a n bs) (hf : FR w fa m fs) (hE : EtCell w) :
    Calls Tryz.prog 19 #[.agg #[.slice a n cap, .int .i64 ops, .slice fa m fc, .bool down], .int .i64 x] w (DvCA w ⟨outDs (evCode (bs.map BkR.D) ops fs down (codeE true (bs.map BkR.D) x)) (faD ops fs) (bs.map BkR.D) (eraseAt (bs.map BkR.D) x.toNat) (badD (bs.map BkR.D) x.toNat) (tornD (bs.map BkR.D) x.toNat), outOps (evCode (bs.map BkR.D) ops fs down (codeE true (bs.map BkR.D) x)) ops, fs, outDown (evCode (bs.map BkR.D) ops fs down (codeE true (bs.map BkR.D) x)) (faD ops fs) down⟩ (outCode (evCode (bs.map BkR.D) ops fs down (codeE true (bs.map BkR.D) x)) (faD ops fs))) := by
  have B0 : Below w.heap.size w (((w.alloc (.cells #[.slice a n cap, .int .i64 ops, .slice fa m fc, .bool down] 29)).alloc (.cells #[.int .i64 x] 3)).alloc (.cells #[.slice none 0 0, .int .i64 0, .slice none 0 0, .bool false] 29)) := (((Below.refl _ w).alloc (Nat.le_refl _) _).alloc (by simp) _).alloc (by simp; omega) _
  have zK := (Blk.new (w.alloc (.cells #[.slice a n cap, .int .i64 ops, .slice fa m fc, .bool down] 29)) 3 #[.int .i64 x]).alloc (.cells #[.slice none 0 0, .int .i64 0, .slice none 0 0, .bool false] 29)
  have z1 := Blk.new ((w.alloc (.cells #[.slice a n cap, .int .i64 ops, .slice fa m fc, .bool down] 29)).alloc (.cells #[.int .i64 x] 3)) 29 #[.slice none 0 0, .int .i64 0, .slice none 0 0, .bool false]
  have z0 := ((Blk.new w 29 #[.slice a n cap, .int .i64 ops, .slice fa m fc, .bool down]).alloc (.cells #[.int .i64 x] 3)).alloc (.cells #[.slice none 0 0, .int .i64 0, .slice none 0 0, .bool false] 29)
  simp only [World.size_alloc] at z1 zK
  have hcall := behE a n cap (w.heap.size + 1) bs ops fa m fc fs down x _ (ht.keep B0) (hf.keep B0) zK (hE.keep B0)
  generalize outDs (evCode (bs.map BkR.D) ops fs down (codeE true (bs.map BkR.D) x)) (faD ops fs) (bs.map BkR.D) (eraseAt (bs.map BkR.D) x.toNat) (badD (bs.map BkR.D) x.toNat) (tornD (bs.map BkR.D) x.toNat) = DS at hcall ⊢
  generalize outOps (evCode (bs.map BkR.D) ops fs down (codeE true (bs.map BkR.D) x)) ops = OP at hcall ⊢
  generalize outDown (evCode (bs.map BkR.D) ops fs down (codeE true (bs.map BkR.D) x)) (faD ops fs) down = DN at hcall ⊢
  generalize outCode (evCode (bs.map BkR.D) ops fs down (codeE true (bs.map BkR.D) x)) (faD ops fs) = c at hcall ⊢
  generalize hGP : DvCA w ⟨DS, OP, fs, DN⟩ c = P
  have HGP : Hid _ := hGP
  have hmf : ∀ (fn : Fn) (first cap : Array Value) (w : World), (Instr.makeFunc fn first cap).run Tryz.prog w = .ok (.func fn first cap) w := fun _ _ _ _ => rfl
  obtain ⟨H, hH⟩ : ∃ H, w.heap.size = H := ⟨_, rfl⟩
  have HH : Hid (w.heap.size = H) := hH
  rw [hH] at hcall z1 z0
  clear hGP ht hf hE zK
  go_enter Tryz.func19, Tryz.ntmps19
  go_upto_region 1 with fail
  try rw [hH]
  obtain ⟨W0, hW0⟩ : ∃ W, ((w.alloc (.cells #[.slice a n cap, .int .i64 ops, .slice fa m fc, .bool down] 29)).alloc (.cells #[.int .i64 x] 3)).alloc (.cells #[.slice none 0 0, .int .i64 0, .slice none 0 0, .bool false] 29) = W := ⟨_, rfl⟩
  have hws : W0.heap.size = w.heap.size + 3 := by rw [← hW0]; simp
  rw [hW0] at B0 z1 z0 hcall ⊢
  clear hW0
  have HW : Hid _ := hws
  have HB0 : Hid _ := B0
  have HZ1 : Hid (Blk W0 (H + 1 + 1) 29 #[.slice none 0 0, .int .i64 0, .slice none 0 0, .bool false]) := z1
  have x0 := z0.cell 0
  have x1 := z0.cell 1
  have x2 := z0.cell 2
  have x3 := z0.cell 3
  simp at x0 x1 x2 x3
  clear B0 z1 z0 hH hws
  go_wp2_with fail
  refine hcall.mono ?_
  rintro e w1 ⟨aC, nC, cC, fC, mC, kC, tC, rfl, qC, hlC, b1⟩
  dsimp only at qC ⊢
  have zr := Blk.keep HZ1.out b1
  have r0 := zr.cell 0
  have r1 := zr.cell 1
  have r2 := zr.cell 2
  have r3 := zr.cell 3
  have f0 := zr.frozen 0
  have f1 := zr.frozen 1
  have f2 := zr.frozen 2
  have f3 := zr.frozen 3
  have zf := (((zr.set 0 (.slice aC nC cC)).set 1 (.int .i64 OP)).set 2 (.slice fC mC kC)).set 3 (.bool DN)
  have d0 := zf.cell 0
  have d1 := zf.cell 1
  have d2 := zf.cell 2
  have d3 := zf.cell 3
  simp at r0 r1 r2 r3 d0 d1 d2 d3
  have HQ : Hid _ := And.intro qC (And.intro hlC b1)
  clear qC b1 zr zf hlC x0 x1 x2 x3 hcall
  go_wp2
  refine bodyPost_ret (v := .tuple #[.agg #[.slice aC nC cC, .int .i64 OP, .slice fC mC kC, .bool DN], .int .i64 c]) (by simp [results, Tryz.f19, go_sem, d0, d1, d2, d3]) rfl ?_
  rw [← HGP.out]
  obtain ⟨q, hl, b1⟩ := HQ.out
  have hw := HW.out
  have hH := HH.out
  have bel : Below w.heap.size w w1 := HB0.out.trans (b1.mono HB0.out.size)
  have h1 : H + 1 + 1 < W0.heap.size := by omega
  have s : ∀ (W : World) (i : Nat) (v : Value), Below w.heap.size w W → Below w.heap.size w (W.setCell ⟨H + 1 + 1, i, none⟩ v) := fun W i v hb => hb.setCell (p := ⟨H + 1 + 1, i, none⟩) (by simp only; omega) v
  exact ⟨aC, nC, cC, fC, mC, kC, tC, rfl, ((((q.set_below h1).set_below h1).set_below h1).set_below h1).wider (by omega), hl, s _ _ _ (s _ _ _ (s _ _ _ (s _ _ _ bel)))⟩
end

section
open Go.RowKit
set_option maxHeartbeats 1000000 in
theorem sameLb_any (a a' : Option Addr) (n m cap cap' : Nat) (zs ys : List Int) (w : World) (hn : zs.length = n) (hm : ys.length = m) (hs : n ≤ 4000000) (hs' : m ≤ 4000000) (hr : Rd w a zs) (hr' : Rd w a' ys) :
    Calls Tryz.prog 16 #[.slice a n cap, .slice a' m cap'] w fun e w' => e = .returned (.bool (decide (zs = ys))) ∧ ∃ d, w' = w.drewN d := by
  by_cases hnm : n = m
  · subst hnm
    by_cases h0 : n = 0
    · subst h0
      obtain rfl : zs = [] := List.length_eq_zero_iff.1 hn
      obtain rfl : ys = [] := List.length_eq_zero_iff.1 hm
      go_enter Tryz.func16, Tryz.ntmps16
      go_wp2
      refine wp_loop_rounds 1 ?_; rw [rounds_succ]
      go_wp2
      go_ret
      exact ⟨rfl, 0, rfl⟩
    · obtain ⟨b, off, rfl, hlt, hc⟩ := hr.lt (by intro h; subst h; simp at hn; omega)
      obtain ⟨b', off', rfl, hlt', hc'⟩ := hr'.lt (by intro h; subst h; simp at hm; omega)
      have HC : Hid _ := hc
      have HC' : Hid _ := hc'
      have hn' : Hid (zs.length = n) := hn
      have hm' : Hid (ys.length = n) := hm
      clear hr hr' hc hc' hn hm
      go_enter Tryz.func16, Tryz.ntmps16
      go_wp2
      go_loopw [5] (fun i wr => ∃ k d : Nat, k ≤ n ∧ i = .int .i64 k ∧ wr = w.drewN d ∧ Hid (∀ j, j < k → zs.getD j 0 = ys.getD j 0)) (fun i _ => n - (intOf i).toNat)
      case atStart => exact ⟨0, 0, Nat.zero_le _, rfl, rfl, fun j hj => by omega⟩
      case round =>
        obtain ⟨k, d, hk, rfl, hwr0, hall⟩ := hrel
        have hwr : Hid (wr = w.drewN d) := hwr0
        have hcells : ∀ p, wr.cell? p = w.cell? p := fun p => by rw [hwr0]; rfl
        clear hwr0
        by_cases hkn : k < n
        · have hki : (k : Int) < (n : Int) := by omega
          have x1 := HC.out k (by rw [hn'.out]; exact hkn)
          have y1 := HC'.out k (by rw [hm'.out]; exact hkn)
          rw [← hcells] at x1 y1
          have hyes : zs.getD k 0 = ys.getD k 0 → ∀ j, j < k + 1 → zs.getD j 0 = ys.getD j 0 := by
            intro e j hj
            rcases (show j < k ∨ j = k by omega) with hj | rfl
            · exact hall.out j hj
            · exact e
          have hno : zs.getD k 0 ≠ ys.getD k 0 → decide (zs = ys) = false := fun e => decide_eq_false (fun e' => e (by rw [e']))
          obtain ⟨z, hz⟩ : ∃ z, zs.getD k 0 = z := ⟨_, rfl⟩
          obtain ⟨y, hy⟩ : ∃ y, ys.getD k 0 = y := ⟨_, rfl⟩
          rw [hz] at x1 hyes hno
          rw [hy] at y1 hyes hno
          by_cases heq : z = y
          · have heq' : (z == y) = true := by simp [heq]
            have hnx : Hid _ := hyes heq
            clear hyes hno heq hz hy hcells hall
            go_wp2
            go_quiet (fail)
            go_wp2
            go_roundw
            case rel => exact ⟨k + 1, d + nq, by omega, by go_num, by rw [hwr.out, World.drewN_drewN], hnx⟩
            case measure => simp [intOf]; omega
          · have heq' : (z == y) = false := by simp [heq]
            have hfin : Hid _ := hno heq
            clear hyes hno heq hz hy hcells hall
            go_wp2
            go_quiet (fail)
            go_wp2
            go_ret
            exact ⟨ret_bool hfin.out.symm, d + nq, by rw [hwr.out, World.drewN_drewN]⟩
        · have hki : ¬ (k : Int) < (n : Int) := by omega
          have hfin : Hid (decide (zs = ys) = true) := decide_eq_true (List.ext_getElem (by rw [hn'.out, hm'.out]) (fun j h h' => by
            have := hall.out j (by rw [hn'.out] at h; omega)
            simpa [h, h'] using this))
          clear hcells hall
          go_wp2
          go_ret
          exact ⟨ret_bool hfin.out.symm, d, hwr.out⟩
  · have hne : Hid (decide (zs = ys) = false) := decide_eq_false (fun e => hnm (by rw [← hn, ← hm, e]))
    have hnm' : ((n : Int) == (m : Int)) = false := by simp; omega
    clear hr hr' hn hm hnm
    go_enter Tryz.func16, Tryz.ntmps16
    go_wp2
    go_ret
    exact ⟨ret_bool hne.out.symm, 0, rfl⟩
end

section
open Go.RowKit
theorem bk_same {ts ts' : List BkR} {k : Nat} {r r' : BkR} (h : ts.map BkR.D = ts'.map BkR.D) (hr : ts[k]? = some r) (hr' : ts'[k]? = some r') : r.ps.map PgR.D = r'.ps.map PgR.D ∧ r.wear = r'.wear ∧ r.bad = r'.bad := by
  have h1 : (ts.map BkR.D)[k]? = some r.D := by rw [List.getElem?_map, hr]; rfl
  rw [h, List.getElem?_map, hr'] at h1
  simp only [Option.map_some, Option.some.injEq, BkR.D, BkD.mk.injEq] at h1
  exact ⟨h1.1.symm, h1.2.1.symm, h1.2.2.symm⟩
theorem pg_same {ps ps' : List PgR} {k : Nat} {p p' : PgR} (h : ps.map PgR.D = ps'.map PgR.D) (hr : ps[k]? = some p) (hr' : ps'[k]? = some p') : p.used = p'.used ∧ p.zs = p'.zs := by
  have h1 : (ps.map PgR.D)[k]? = some p.D := by rw [List.getElem?_map, hr]; rfl
  rw [h, List.getElem?_map, hr'] at h1
  simp only [Option.map_some, Option.some.injEq, PgR.D, PgD.mk.injEq] at h1
  exact ⟨h1.1.symm, h1.2.symm⟩
theorem totP_len' (ps : List PgD) : ps.length ≤ totP ps := by
  induction ps with
  | nil => simp [totP]
  | cons d ds ih => rw [totP_cons, List.length_cons]; omega
set_option maxRecDepth 100000 in
set_option maxHeartbeats 8000000 in
theorem sameChip_same (a a' : Option Addr) (n c c' : Nat) (ts ts' : List BkR) (w : World) (h : CR w a n ts) (h' : CR w a' n ts') (he : ts.map BkR.D = ts'.map BkR.D) :
    Calls Tryz.prog 14 #[.agg #[.slice a n c], .agg #[.slice a' n c']] w fun e w' => e = .returned (.bool true) ∧ Below w.heap.size w w' := by
  have hnn := h.n
  have B0 : Below w.heap.size w ((w.alloc (.cells #[.slice a n c] 26)).alloc (.cells #[.slice a' n c'] 26)) := ((Below.refl _ w).alloc (Nat.le_refl _) _).alloc (by simp) _
  have z0 := (Blk.new w 26 #[.slice a n c]).alloc (.cells #[.slice a' n c'] 26)
  have z1 := Blk.new (w.alloc (.cells #[.slice a n c] 26)) 26 #[.slice a' n c']
  simp only [World.size_alloc] at z1
  obtain ⟨H, hH⟩ : ∃ H, w.heap.size = H := ⟨_, rfl⟩
  rw [hH] at z0 z1
  obtain ⟨W0, hW0⟩ : ∃ W, (w.alloc (.cells #[.slice a n c] 26)).alloc (.cells #[.slice a' n c'] 26) = W := ⟨_, rfl⟩
  rw [hW0] at B0 z0 z1
  have HB0 : Hid (Below w.heap.size w W0) := B0
  have HZ0 : Hid (Blk W0 H 26 #[.slice a n c]) := z0
  have HZ1 : Hid (Blk W0 (H + 1) 26 #[.slice a' n c']) := z1
  have HC : Hid (CR W0 a n ts) := h.keep B0
  have HC' : Hid (CR W0 a' n ts') := h'.keep B0
  have HE : Hid (ts.map BkR.D = ts'.map BkR.D) := he
  have hnf : ((n : Int) != (n : Int)) = false := by simp
  have q0 := z0.cell 0
  have q1 := z1.cell 0
  simp at q0 q1
  clear h h' he B0 z0 z1
  go_enter Tryz.func14, Tryz.ntmps14
  go_wp2_with fail
  try rw [hH]
  try rw [hW0]
  clear hW0
  go_wp2
  go_loopw [5] (fun i wr => ∃ k : Nat, k ≤ n ∧ i = .int .i64 k ∧ Hid (Below W0.heap.size W0 wr)) (fun i _ => n - (intOf i).toNat)
  case atStart => exact ⟨0, Nat.zero_le _, rfl, Below.refl _ _⟩
  case round =>
    obtain ⟨k, hk, rfl, hB⟩ := hrel
    clear q0 q1
    have q0 := (HZ0.out.keep hB.out).cell 0
    have q1 := (HZ1.out.keep hB.out).cell 0
    simp at q0 q1
    by_cases hkn : k < n
    · have hki : (k : Int) < (n : Int) := by omega
      obtain ⟨b, off, r, rfl, hlt, hrk, ⟨x0, x1, x2⟩, hrp, htp⟩ := (HC.out.keep hB.out).some hkn
      obtain ⟨b', off', r', rfl, hlt', hrk', ⟨y0, y1, y2⟩, hrp', htp'⟩ := (HC'.out.keep hB.out).some hkn
      obtain ⟨e1, e2, e3⟩ := bk_same HE.out hrk hrk'
      obtain ⟨ra, rc, ps, wear, bad⟩ := r
      obtain ⟨ra', rc', ps', wear', bad'⟩ := r'
      dsimp only at x0 x1 x2 y0 y1 y2 hrp hrp' htp htp' e1 e2 e3
      subst e2 e3
      have hml : ps'.length = ps.length := by have := congrArg List.length e1; simp at this; omega
      rw [hml] at y0
      have hmt : ps.length ≤ 1048576 := by have := totP_len' (ps.map PgR.D); simp at this; omega
      obtain ⟨m, hm⟩ : ∃ m, ps.length = m := ⟨_, rfl⟩
      rw [hm] at x0 y0 hmt
      have HM : Hid (ps.length = m) := hm
      have HM' : Hid (ps'.length = m) := hml.trans hm
      have HPS : Hid (ps.map PgR.D = ps'.map PgR.D) := e1
      have HTP : Hid (totP (ps.map PgR.D) ≤ 1048576) := htp
      have hsz := hB.out.size
      have bA : Below wr.heap.size wr ((wr.alloc (.cells #[.slice ra m rc, .int .i64 wear, .bool bad] 42)).alloc (.cells #[.slice ra' m rc', .int .i64 wear, .bool bad] 42)) := ((Below.refl _ wr).alloc (Nat.le_refl _) _).alloc (by simp) _
      have u0 := (Blk.new wr 42 #[.slice ra m rc, .int .i64 wear, .bool bad]).alloc (.cells #[.slice ra' m rc', .int .i64 wear, .bool bad] 42)
      have u1 := Blk.new (wr.alloc (.cells #[.slice ra m rc, .int .i64 wear, .bool bad] 42)) 42 #[.slice ra' m rc', .int .i64 wear, .bool bad]
      simp only [World.size_alloc] at u1
      have y0' : (wr.alloc (.cells #[.slice ra m rc, .int .i64 wear, .bool bad] 42)).cell? ⟨b', off' + k * 3, none⟩ = _ := Lib.cell?_alloc_some _ y0
      have y1' : (wr.alloc (.cells #[.slice ra m rc, .int .i64 wear, .bool bad] 42)).cell? ⟨b', off' + k * 3 + 1, none⟩ = _ := Lib.cell?_alloc_some _ y1
      have y2' : (wr.alloc (.cells #[.slice ra m rc, .int .i64 wear, .bool bad] 42)).cell? ⟨b', off' + k * 3 + 2, none⟩ = _ := Lib.cell?_alloc_some _ y2
      have q1' : (wr.alloc (.cells #[.slice ra m rc, .int .i64 wear, .bool bad] 42)).cell? ⟨H + 1, 0, none⟩ = _ := Lib.cell?_alloc_some _ q1
      obtain ⟨V, hV⟩ : ∃ V, (wr.alloc (.cells #[.slice ra m rc, .int .i64 wear, .bool bad] 42)).alloc (.cells #[.slice ra' m rc', .int .i64 wear, .bool bad] 42) = V := ⟨_, rfl⟩
      obtain ⟨G, hG⟩ : ∃ G, wr.heap.size = G := ⟨_, rfl⟩
      rw [hV] at bA u0 u1
      rw [hG] at u0 u1
      have HU0 : Hid (Blk V G 42 #[.slice ra m rc, .int .i64 wear, .bool bad]) := u0
      have HU1 : Hid (Blk V (G + 1) 42 #[.slice ra' m rc', .int .i64 wear, .bool bad]) := u1
      have HRP : Hid (RdPs V ra ps) := hrp.keep bA
      have HRP' : Hid (RdPs V ra' ps') := hrp'.keep bA
      have HBV : Hid (Below W0.heap.size W0 V) := hB.out.trans (bA.mono hsz)
      have hwf : (wear != wear) = false := by simp
      have hbf : (bad != bad) = false := by simp
      have hmf : ((m : Int) != (m : Int)) = false := by simp
      obtain ⟨v0, v1, v2⟩ : _ ∧ _ ∧ _ := ⟨u0.cell 0, u0.cell 1, u0.cell 2⟩
      obtain ⟨t0, t1, t2⟩ : _ ∧ _ ∧ _ := ⟨u1.cell 0, u1.cell 1, u1.cell 2⟩
      simp at v0 v1 v2 t0 t1 t2
      clear hrk hrk' hrp hrp' htp htp' e1 hml hm bA u0 u1 hsz
      go_upto_region 8 with fail
      try rw [hV]
      try rw [hG]
      clear hV hG x0 x1 x2 y0 y1 y2 y0' y1' y2' q0 q1 q1'
      go_wp2
      go_loopw [8] (fun i wr => ∃ j : Nat, j ≤ m ∧ i = .int .i64 j ∧ Hid (Below V.heap.size V wr)) (fun i _ => m - (intOf i).toNat)
      case atStart => exact ⟨0, Nat.zero_le _, rfl, Below.refl _ _⟩
      case round =>
        obtain ⟨j, hj, rfl, hBi⟩ := hrel
        clear v0 v1 v2 t0 t1 t2
        have v0 := (HU0.out.keep hBi.out).cell 0
        have t0 := (HU1.out.keep hBi.out).cell 0
        simp at v0 t0
        by_cases hjm : j < m
        · have hji : (j : Int) < (m : Int) := by omega
          obtain ⟨p, hp⟩ : ∃ p, ps[j]? = some p := ⟨_, List.getElem?_eq_getElem (by rw [HM.out]; exact hjm)⟩
          obtain ⟨p', hp'⟩ : ∃ p, ps'[j]? = some p := ⟨_, List.getElem?_eq_getElem (by rw [HM'.out]; exact hjm)⟩
          obtain ⟨e1, e2⟩ := pg_same HPS.out hp hp'
          obtain ⟨pb, po, rfl, plt, pc⟩ := (HRP.out.keep hBi.out).lt (by intro e; subst e; simp at hp)
          obtain ⟨pb', po', rfl, plt', pc'⟩ := (HRP'.out.keep hBi.out).lt (by intro e; subst e; simp at hp')
          obtain ⟨⟨p0, p1⟩, pr⟩ := pc j p hp
          obtain ⟨⟨r0, r1⟩, prr⟩ := pc' j p' hp'
          have hzl : p.zs.length ≤ 1048576 := by
            have h1 : p.D ∈ ps.map PgR.D := List.mem_map_of_mem (List.mem_of_getElem? hp)
            have := totP_mem h1
            have h2 := HTP.out
            have h3 : p.D.zs = p.zs := rfl
            rw [h3] at this
            omega
          obtain ⟨us, pa, pcap, zs⟩ := p
          obtain ⟨us', pa', pcap', zs'⟩ := p'
          dsimp only at p0 p1 pr r0 r1 prr e1 e2 hzl
          subst e1 e2
          obtain ⟨l, hl⟩ : ∃ l, zs.length = l := ⟨_, rfl⟩
          rw [hl] at p1 r1 hzl
          have HL : Hid (zs.length = l) := hl
          have huf : (us != us) = false := by simp
          have hcall := sameLb_any pa pa' l l pcap pcap' zs zs wr.drew HL.out HL.out (by omega) (by omega) (pr.keep (Below.refl _ _).drew) (prr.keep (Below.refl _ _).drew)
          rw [show decide (zs = zs) = true by simp] at hcall
          have HPC : Hid (∀ d, (wr.drew.drewN d).cell? ⟨G, 0, none⟩ = some (.slice (some ⟨pb, po, none⟩) m rc) ∧ (wr.drew.drewN d).cell? ⟨G + 1, 0, none⟩ = some (.slice (some ⟨pb', po', none⟩) m rc') ∧ (wr.drew.drewN d).cell? ⟨pb, po + j * 2, none⟩ = some (.bool us) ∧ (wr.drew.drewN d).cell? ⟨pb, po + j * 2 + 1, none⟩ = some (.slice pa l pcap) ∧ (wr.drew.drewN d).cell? ⟨pb', po' + j * 2, none⟩ = some (.bool us) ∧ (wr.drew.drewN d).cell? ⟨pb', po' + j * 2 + 1, none⟩ = some (.slice pa' l pcap')) := fun d => ⟨v0, t0, p0, p1, r0, r1⟩
          have HBI : Hid (Below V.heap.size V wr.drew) := hBi.out.drew
          clear hp hp' pc pc' pr prr hl plt plt'
          go_upto_region 13 with fail
          refine wp_region_noPanic ?_
          refine wp_region_held_drew (S := fun W : World => W.cell? ⟨G, 0, none⟩ = some (.slice (some ⟨pb, po, none⟩) m rc) ∧ W.cell? ⟨G + 1, 0, none⟩ = some (.slice (some ⟨pb', po', none⟩) m rc') ∧ W.cell? ⟨pb, po + j * 2, none⟩ = some (.bool us) ∧ W.cell? ⟨pb, po + j * 2 + 1, none⟩ = some (.slice pa l pcap) ∧ W.cell? ⟨pb', po' + j * 2, none⟩ = some (.bool us) ∧ W.cell? ⟨pb', po' + j * 2 + 1, none⟩ = some (.slice pa' l pcap')) (by kernel_rfl) (by go_keep) (fun hS => ?_)
          refine wpAnyH_take (i := 0) (v := ?gv1) rfl (by kernel_rfl) (by kernel_rfl) (by kernel_rfl) (fun _ _ _ h => h) (Or.inl ⟨by kernel_rfl, ?gy1⟩) (by assumption) ?gr1
          case gy1 => (intro w' hSw; (try dsimp only at hSw); go_simp; (try with_reducible rfl))
          try simp only [Act.put, List.setIfInBounds_toArray, List.set_cons_zero, List.set_cons_succ, List.getElem_toArray, List.getElem_cons_zero]
          refine wpAnyH_take (i := 1) (v := ?gv2) rfl (by kernel_rfl) (by kernel_rfl) (by kernel_rfl) (fun _ _ _ h => h) (Or.inl ⟨by kernel_rfl, ?gy2⟩) (by assumption) ?gr2
          case gy2 => (intro w' hSw; (try dsimp only at hSw); go_simp; (try with_reducible rfl))
          try simp only [Act.put, List.setIfInBounds_toArray, List.set_cons_zero, List.set_cons_succ, List.getElem_toArray, List.getElem_cons_succ, List.getElem_cons_zero]
          refine wpAnyH_take (i := 2) (v := ?gv3) rfl (by kernel_rfl) (by kernel_rfl) (by kernel_rfl) (fun _ _ _ h => h) (Or.inl ⟨by kernel_rfl, ?gy3⟩) (by assumption) ?gr3
          case gy3 => (intro w' hSw; (try dsimp only at hSw); go_simp; (try with_reducible rfl))
          try simp only [Act.put, List.setIfInBounds_toArray, List.set_cons_zero, List.set_cons_succ, List.getElem_toArray, List.getElem_cons_succ, List.getElem_cons_zero]
          refine wpAnyH_take (i := 3) (v := ?gv4) rfl (by kernel_rfl) (by kernel_rfl) (by kernel_rfl) (fun _ _ _ h => h) (Or.inl ⟨by kernel_rfl, ?gy4⟩) (by assumption) ?gr4
          case gy4 => (intro w' hSw; (try dsimp only at hSw); go_simp; (try with_reducible rfl))
          try simp only [Act.put, List.setIfInBounds_toArray, List.set_cons_zero, List.set_cons_succ, List.getElem_toArray, List.getElem_cons_succ, List.getElem_cons_zero]
          refine wpAnyH_take (i := 4) (v := ?gv5) rfl (by kernel_rfl) (by kernel_rfl) (by kernel_rfl) (fun _ _ _ h => h) (Or.inl ⟨by kernel_rfl, ?gy5⟩) (by assumption) ?gr5
          case gy5 => (intro w' hSw; (try dsimp only at hSw); go_simp; (try with_reducible rfl))
          try simp only [Act.put, List.setIfInBounds_toArray, List.set_cons_zero, List.set_cons_succ, List.getElem_toArray, List.getElem_cons_succ, List.getElem_cons_zero]
          refine wpAnyH_take (i := 5) (v := ?gv6) rfl (by kernel_rfl) (by kernel_rfl) (by kernel_rfl) (fun _ _ _ h => h) (Or.inl ⟨by kernel_rfl, ?gy6⟩) (by assumption) ?gr6
          case gy6 => (intro w' hSw; (try dsimp only at hSw); go_simp; (try with_reducible rfl))
          try simp only [Act.put, List.setIfInBounds_toArray, List.set_cons_zero, List.set_cons_succ, List.getElem_toArray, List.getElem_cons_succ, List.getElem_cons_zero]
          refine wpAnyH_take (i := 6) (v := ?gv7) rfl (by kernel_rfl) (by kernel_rfl) (by kernel_rfl) (fun _ _ _ h => h) (Or.inl ⟨by kernel_rfl, ?gy7⟩) (by assumption) ?gr7
          case gy7 => (intro w' hSw; (try dsimp only at hSw); go_simp; (try with_reducible rfl))
          try simp only [Act.put, List.setIfInBounds_toArray, List.set_cons_zero, List.set_cons_succ, List.getElem_toArray, List.getElem_cons_succ, List.getElem_cons_zero]
          refine wpAnyH_take (i := 7) (v := ?gv8) rfl (by kernel_rfl) (by kernel_rfl) (by kernel_rfl) (fun _ _ _ h => h) (Or.inl ⟨by kernel_rfl, ?gy8⟩) (by assumption) ?gr8
          case gy8 => (intro w' hSw; (try dsimp only at hSw); go_simp; (try with_reducible rfl))
          try simp only [Act.put, List.setIfInBounds_toArray, List.set_cons_zero, List.set_cons_succ, List.getElem_toArray, List.getElem_cons_succ, List.getElem_cons_zero]
          refine wpAnyH_take (i := 8) (v := ?gv9) rfl (by kernel_rfl) (by kernel_rfl) (by kernel_rfl) (fun _ _ _ h => h) (Or.inl ⟨by kernel_rfl, ?gy9⟩) (by assumption) ?gr9
          case gy9 => (intro w' hSw; (try dsimp only at hSw); go_simp; (try with_reducible rfl))
          try simp only [Act.put, List.setIfInBounds_toArray, List.set_cons_zero, List.set_cons_succ, List.getElem_toArray, List.getElem_cons_succ, List.getElem_cons_zero]
          refine wpAnyH_take (i := 9) (v := ?gv10) rfl (by kernel_rfl) (by kernel_rfl) (by kernel_rfl) (fun _ _ _ h => h) (Or.inl ⟨by kernel_rfl, ?gy10⟩) (by assumption) ?gr10
          case gy10 => (intro w' hSw; (try dsimp only at hSw); go_simp; (try with_reducible rfl))
          try simp only [Act.put, List.setIfInBounds_toArray, List.set_cons_zero, List.set_cons_succ, List.getElem_toArray, List.getElem_cons_succ, List.getElem_cons_zero]
          refine wpAnyH_take (i := 10) (v := ?gv11) rfl (by kernel_rfl) (by kernel_rfl) (by kernel_rfl) (fun _ _ _ h => h) (Or.inl ⟨by kernel_rfl, ?gy11⟩) (by assumption) ?gr11
          case gy11 => (intro w' hSw; (try dsimp only at hSw); go_simp; (try with_reducible rfl))
          try simp only [Act.put, List.setIfInBounds_toArray, List.set_cons_zero, List.set_cons_succ, List.getElem_toArray, List.getElem_cons_succ, List.getElem_cons_zero]
          refine wpAnyH_take (i := 11) (v := ?gv12) rfl (by kernel_rfl) (by kernel_rfl) (by kernel_rfl) (fun _ _ _ h => h) (Or.inl ⟨by kernel_rfl, ?gy12⟩) (by assumption) ?gr12
          case gy12 => (intro w' hSw; (try dsimp only at hSw); go_simp; (try with_reducible rfl))
          try simp only [Act.put, List.setIfInBounds_toArray, List.set_cons_zero, List.set_cons_succ, List.getElem_toArray, List.getElem_cons_succ, List.getElem_cons_zero]
          refine wpAnyH_take (i := 12) (v := ?gv13) rfl (by kernel_rfl) (by kernel_rfl) (by kernel_rfl) (fun _ _ _ h => h) (Or.inl ⟨by kernel_rfl, ?gy13⟩) (by assumption) ?gr13
          case gy13 => (intro w' hSw; (try dsimp only at hSw); go_simp; (try with_reducible rfl))
          try simp only [Act.put, List.setIfInBounds_toArray, List.set_cons_zero, List.set_cons_succ, List.getElem_toArray, List.getElem_cons_succ, List.getElem_cons_zero]
          refine wpAnyH_take (i := 13) (v := ?gv14) rfl (by kernel_rfl) (by kernel_rfl) (by kernel_rfl) (fun _ _ _ h => h) (Or.inl ⟨by kernel_rfl, ?gy14⟩) (by assumption) ?gr14
          case gy14 => (intro w' hSw; (try dsimp only at hSw); go_simp; (try with_reducible rfl))
          try simp only [Act.put, List.setIfInBounds_toArray, List.set_cons_zero, List.set_cons_succ, List.getElem_toArray, List.getElem_cons_succ, List.getElem_cons_zero]
          refine wpAnyH_take (i := 14) (v := ?gv15) rfl (by kernel_rfl) (by kernel_rfl) (by kernel_rfl) (fun _ _ _ h => h) (Or.inl ⟨by kernel_rfl, ?gy15⟩) (by assumption) ?gr15
          case gy15 => (intro w' hSw; (try dsimp only at hSw); go_simp; (try with_reducible rfl))
          try simp only [Act.put, List.setIfInBounds_toArray, List.set_cons_zero, List.set_cons_succ, List.getElem_toArray, List.getElem_cons_succ, List.getElem_cons_zero]
          refine wpAnyH_take (i := 15) (v := ?gv16) rfl (by kernel_rfl) (by kernel_rfl) (by kernel_rfl) (fun _ _ _ h => h) (Or.inl ⟨by kernel_rfl, ?gy16⟩) (by assumption) ?gr16
          case gy16 => (intro w' hSw; (try dsimp only at hSw); go_simp; (try with_reducible rfl))
          try simp only [Act.put, List.setIfInBounds_toArray, List.set_cons_zero, List.set_cons_succ, List.getElem_toArray, List.getElem_cons_succ, List.getElem_cons_zero]
          refine wpAnyH_take (i := 16) (v := ?gv17) rfl (by kernel_rfl) (by kernel_rfl) (by kernel_rfl) (fun _ _ _ h => h) (Or.inl ⟨by kernel_rfl, ?gy17⟩) (by assumption) ?gr17
          case gy17 => (intro w' hSw; (try dsimp only at hSw); go_simp; (try with_reducible rfl))
          try simp only [Act.put, List.setIfInBounds_toArray, List.set_cons_zero, List.set_cons_succ, List.getElem_toArray, List.getElem_cons_succ, List.getElem_cons_zero]
          refine wpAnyH_take (i := 17) (v := ?gv18) rfl (by kernel_rfl) (by kernel_rfl) (by kernel_rfl) (fun _ _ _ h => h) (Or.inl ⟨by kernel_rfl, ?gy18⟩) (by assumption) ?gr18
          case gy18 => (intro w' hSw; (try dsimp only at hSw); go_simp; (try with_reducible rfl))
          try simp only [Act.put, List.setIfInBounds_toArray, List.set_cons_zero, List.set_cons_succ, List.getElem_toArray, List.getElem_cons_succ, List.getElem_cons_zero]
          refine wpAnyH_take (i := 18) (v := ?gv19) rfl (by kernel_rfl) (by kernel_rfl) (by kernel_rfl) (fun _ _ _ h => h) (Or.inl ⟨by kernel_rfl, ?gy19⟩) (by assumption) ?gr19
          case gy19 => (intro w' hSw; (try dsimp only at hSw); go_simp; (try with_reducible rfl))
          try simp only [Act.put, List.setIfInBounds_toArray, List.set_cons_zero, List.set_cons_succ, List.getElem_toArray, List.getElem_cons_succ, List.getElem_cons_zero]
          refine wpAnyH_take (i := 19) (v := ?gv20) rfl (by kernel_rfl) (by kernel_rfl) (by kernel_rfl) (fun _ _ _ h => h) (Or.inl ⟨by kernel_rfl, ?gy20⟩) (by assumption) ?gr20
          case gy20 => (intro w' hSw; (try dsimp only at hSw); go_simp; (try with_reducible rfl))
          try simp only [Act.put, List.setIfInBounds_toArray, List.set_cons_zero, List.set_cons_succ, List.getElem_toArray, List.getElem_cons_succ, List.getElem_cons_zero]
          refine wpAnyH_take (i := 20) (v := ?gv21) rfl (by kernel_rfl) (by kernel_rfl) (by kernel_rfl) (fun _ _ _ h => h) (Or.inl ⟨by kernel_rfl, ?gy21⟩) (by assumption) ?gr21
          case gy21 => (intro w' hSw; (try dsimp only at hSw); go_simp; (try with_reducible rfl))
          try simp only [Act.put, List.setIfInBounds_toArray, List.set_cons_zero, List.set_cons_succ, List.getElem_toArray, List.getElem_cons_succ, List.getElem_cons_zero]
          refine wpAnyH_take (i := 21) (v := ?gv22) rfl (by kernel_rfl) (by kernel_rfl) (by kernel_rfl) (fun _ _ _ h => h) (Or.inl ⟨by kernel_rfl, ?gy22⟩) (by assumption) ?gr22
          case gy22 => (intro w' hSw; (try dsimp only at hSw); go_simp; (try with_reducible rfl))
          try simp only [Act.put, List.setIfInBounds_toArray, List.set_cons_zero, List.set_cons_succ, List.getElem_toArray, List.getElem_cons_succ, List.getElem_cons_zero]
          refine wpAnyH_take (i := 22) (v := ?gv23) rfl (by kernel_rfl) (by kernel_rfl) (by kernel_rfl) (fun _ _ _ h => h) (Or.inl ⟨by kernel_rfl, ?gy23⟩) (by assumption) ?gr23
          case gy23 => (intro w' hSw; (try dsimp only at hSw); go_simp; (try with_reducible rfl))
          try simp only [Act.put, List.setIfInBounds_toArray, List.set_cons_zero, List.set_cons_succ, List.getElem_toArray, List.getElem_cons_succ, List.getElem_cons_zero]
          refine wpAnyH_take (i := 23) (v := ?gv24) rfl (by kernel_rfl) (by kernel_rfl) (by kernel_rfl) (fun _ _ _ h => h) (Or.inl ⟨by kernel_rfl, ?gy24⟩) (by assumption) ?gr24
          case gy24 => (intro w' hSw; (try dsimp only at hSw); go_simp; (try with_reducible rfl))
          try simp only [Act.put, List.setIfInBounds_toArray, List.set_cons_zero, List.set_cons_succ, List.getElem_toArray, List.getElem_cons_succ, List.getElem_cons_zero]
          refine wpAnyH_take (i := 24) (v := ?gv25) rfl (by kernel_rfl) (by kernel_rfl) (by kernel_rfl) (fun _ _ _ h => h) (Or.inl ⟨by kernel_rfl, ?gy25⟩) (by assumption) ?gr25
          case gy25 => (intro w' hSw; (try dsimp only at hSw); go_simp; (try with_reducible rfl))
          try simp only [Act.put, List.setIfInBounds_toArray, List.set_cons_zero, List.set_cons_succ, List.getElem_toArray, List.getElem_cons_succ, List.getElem_cons_zero]
          refine wpAnyH_take (i := 25) (v := ?gv26) rfl (by kernel_rfl) (by kernel_rfl) (by kernel_rfl) (fun _ _ _ h => h) (Or.inl ⟨by kernel_rfl, ?gy26⟩) (by assumption) ?gr26
          case gy26 => (intro w' hSw; (try dsimp only at hSw); go_simp; (try with_reducible rfl))
          try simp only [Act.put, List.setIfInBounds_toArray, List.set_cons_zero, List.set_cons_succ, List.getElem_toArray, List.getElem_cons_succ, List.getElem_cons_zero]
          refine wpAnyH_ready (rs := [26]) (by kernel_rfl) (by simp) ?_
          refine AllReadyH.cons rfl (fun K hK => ?_) AllReadyH.nil
          go_simp
          (with_reducible refine hcall.mono ?_)
          rintro e u26 ⟨rfl, dd, rfl⟩
          have q26 := HPC.out dd
          clear hS
          dsimp only
          refine Shut.out hK _ _ (q26) (fun hS => ?_)
          try simp only [Act.put, List.setIfInBounds_toArray, List.set_cons_zero, List.set_cons_succ, List.getElem_toArray, List.getElem_cons_succ, List.getElem_cons_zero]
          refine wpAnyH_take (i := 27) (v := ?gv27) rfl (by kernel_rfl) (by kernel_rfl) (by kernel_rfl) (fun _ _ _ h => h) (Or.inl ⟨by kernel_rfl, ?gy27⟩) (by assumption) ?gr27
          case gy27 => (intro w' hSw; (try dsimp only at hSw); go_simp; (try with_reducible rfl))
          try simp only [Act.put, List.setIfInBounds_toArray, List.set_cons_zero, List.set_cons_succ, List.getElem_toArray, List.getElem_cons_succ, List.getElem_cons_zero]
          refine wpAnyH_take (i := 28) (v := ?gv28) rfl (by kernel_rfl) (by kernel_rfl) (by kernel_rfl) (fun _ _ _ h => h) (Or.inl ⟨by kernel_rfl, ?gy28⟩) (by assumption) ?gr28
          case gy28 => (intro w' hSw; (try dsimp only at hSw); go_simp; (try with_reducible rfl))
          try simp only [Act.put, List.setIfInBounds_toArray, List.set_cons_zero, List.set_cons_succ, List.getElem_toArray, List.getElem_cons_succ, List.getElem_cons_zero]
          refine wpAnyH_done (by kernel_rfl) (NoPanic.normal ?_) _
          have HBN : Hid (Below V.heap.size V (wr.drewN (1 + dd))) := below_drewN hBi.out (1 + dd)
          clear hcall v0 t0 p0 p1 r0 r1
          go_wp2
          go_roundw
          all_goals first
            | (case rel => exact ⟨j + 1, by omega, by go_num, HBN⟩)
            | (case rel => (repeat apply Exists.intro); exact ⟨⟨j + 1, by omega, by go_num, HBN⟩, rfl⟩)
            | (case measure => simp [intOf]; omega)
        · have hji : ¬ (j : Int) < (m : Int) := by omega
          have HBI : Hid (Below W0.heap.size W0 wr) := HBV.out.trans (hBi.out.mono HBV.out.size)
          clear t0 hBi
          go_wp2
          go_roundw
          all_goals first
            | (case rel => exact ⟨k + 1, by omega, by go_num, HBI⟩)
            | (case rel => (repeat apply Exists.intro); exact ⟨⟨k + 1, by omega, by go_num, HBI⟩, rfl⟩)
            | (case measure => simp [intOf]; omega)
    · have hki : ¬ (k : Int) < (n : Int) := by omega
      go_wp2
      go_ret
      exact ⟨rfl, by have h9 := HB0.out.trans (hB.out.mono HB0.out.size); first | exact h9 | (rw [← hH]; exact h9)⟩
end

section
open Go.RowKit
/-- A device that can be read, and its box. -/
structure DK (W : World) (X : Nat) (va : Option Addr) (vn vc : Nat) (op : Int) (fa : Option Addr) (m fc : Nat) (dn : Bool) (qs : List BkR) (fs : List FtD) : Prop where
  c : CR W va vn qs
  f : FR W fa m fs
  b : Blk W X 29 #[.slice va vn vc, .int .i64 op, .slice fa m fc, .bool dn]
theorem DK.keep {W W' : World} {X : Nat} {va : Option Addr} {vn vc : Nat} {op : Int} {fa : Option Addr} {m fc : Nat} {dn : Bool} {qs : List BkR} {fs : List FtD} (h : DK W X va vn vc op fa m fc dn qs fs) (hb : Below W.heap.size W W') : DK W' X va vn vc op fa m fc dn qs fs := ⟨h.c.keep hb, h.f.keep hb, h.b.keep hb⟩
theorem below_v {w w1 w2 : World} (h : Below w.heap.size w w1) (h2 : Below w1.heap.size w1 w2) : Below w.heap.size w w2 := h.trans (h2.mono h.size)
set_option maxRecDepth 100000 in
set_option maxHeartbeats 8000000 in
theorem walkDevErased (a0 : Option Addr) (len0 cap0 : Nat) (zs : List Int) (w : World) (hn : zs.length = len0) (hr : Rd w a0 zs) (hb : Byt zs) (hg : EtCell w) :
    Calls Tryz.prog 4 #[.slice a0 len0 cap0] w fun e w' => e = .returned (.bool true) ∧ Below w.heap.size w w' := by
  by_cases hbig : 1048576 < len0
  · have hd : decide ((1048576 : Int) < (len0 : Int)) = true := by simp; omega
    go_enter Tryz.func4, Tryz.ntmps4
    go_wp2_with fail
    refine (big_any a0 len0 cap0 w).mono ?_
    rintro e w1 ⟨rfl, hw⟩
    obtain rfl := hw.symm
    rw [hd]
    go_wp2
    go_ret
    exact ⟨rfl, Below.refl _ _⟩
  have hd : decide ((1048576 : Int) < (len0 : Int)) = false := by simp; omega
  have hcL := drawDevErase_any a0 len0 cap0 zs w hn (by omega) hr hb
  have HG : Hid (EtCell w) := hg
  clear hn hr hb hg
  go_enter Tryz.func4, Tryz.ntmps4
  go_wp2_with fail
  refine (big_any a0 len0 cap0 w).mono ?_
  rintro e w1 ⟨rfl, hw⟩
  obtain rfl := hw.symm
  rw [hd]
  clear hd hbig
  go_wp2_with fail
  refine hcL.mono ?_
  rintro e w1 ⟨va, vn, vc, op, fa, m, fc, dn, x, qs, fs, rfl, hx, ac, hpv, af, hm, b1⟩
  have b2 : Below w1.heap.size w1 (w1.alloc (.cells #[.slice va vn vc, .int .i64 op, .slice fa m fc, .bool dn] 29)) := (Below.refl _ _).alloc (Nat.le_refl _) _
  have d2 : DK (w1.alloc (.cells #[.slice va vn vc, .int .i64 op, .slice fa m fc, .bool dn] 29)) w1.heap.size va vn vc op fa m fc dn qs fs := ⟨ac.cr.keep b2, FR.keep (af w1 (fun _ _ _ => rfl)) b2, Blk.new w1 _ _⟩
  have B2 := below_v b1 b2
  obtain ⟨ds, hds⟩ : ∃ d, qs.map BkR.D = d := ⟨_, rfl⟩
  have HO := er_out ds op fs dn x
  have CI := fun (W : World) (hc : CR W va vn qs) (hf : FR W fa m fs) (hE : EtCell W) => devErI va vn vc qs op fa m fc fs dn x W hc hf hE
  have CS := fun (W : World) (hc : CR W va vn qs) (hf : FR W fa m fs) => devErS va vn vc qs op fa m fc fs dn x W hc hf
  rw [hds] at CI CS
  obtain ⟨ds', hds'⟩ : ∃ d, outDs (evCode ds op fs dn (codeE true ds x)) (faD op fs) ds (eraseAt ds x.toNat) (badD ds x.toNat) (tornD ds x.toNat) = d := ⟨_, rfl⟩
  obtain ⟨op', hop'⟩ : ∃ d, outOps (evCode ds op fs dn (codeE true ds x)) op = d := ⟨_, rfl⟩
  obtain ⟨dn', hdn'⟩ : ∃ d, outDown (evCode ds op fs dn (codeE true ds x)) (faD op fs) dn = d := ⟨_, rfl⟩
  obtain ⟨cd, hcd⟩ : ∃ d, outCode (evCode ds op fs dn (codeE true ds x)) (faD op fs) = d := ⟨_, rfl⟩
  rw [hds', hop', hdn', hcd] at HO CI CS
  have HER : Hid _ := HO
  have HCI : Hid _ := CI
  have HCS : Hid _ := CS
  have HDS : Hid (qs.map BkR.D = ds) := hds
  have htot : totB ds ≤ 1048576 := by rw [← hds]; exact d2.c.tot
  obtain ⟨q0, q1, q2, q3⟩ := d2.b.dev
  clear hcL hds hds' hop' hdn' hcd HO CI CS ac af b1 b2
  go_wp2_with fail
  obtain ⟨W2, hW2⟩ : ∃ W, w1.alloc (.cells #[.slice va vn vc, .int .i64 op, .slice fa m fc, .bool dn] 29) = W := ⟨_, rfl⟩
  obtain ⟨X, hX⟩ : ∃ X, w1.heap.size = X := ⟨_, rfl⟩
  rw [hW2, hX] at d2
  rw [hW2] at B2
  try rw [hW2]
  try rw [hX]
  clear hW2 hX q0 q1 q2 q3
  refine (HCI.out W2 d2.c d2.f (EtCell.keep HG.out B2)).mono ?_
  rintro e w3 ⟨a3, n3, c3, fa3, m3, fc3, qs3, rfl, hnd3, hql3, b3⟩
  dsimp only at hnd3 ⊢
  have d3 := d2.keep b3
  have B3 := below_v B2 b3
  have htot' : totB ds' ≤ 1048576 := by
    rcases HER.out with ⟨h, _⟩ | ⟨_, h, _⟩
    · rw [h]; exact htot
    · exact devB_tot h
  have hfl := d2.f.len
  have hD3 : qs3.map BkR.D = ds' := hnd3.bs.D
  have c3' : CR w3 a3 n3 qs3 := hnd3.cr hql3 htot'
  have f3' : FR w3 fa3 m3 fs := OwnFa.fr hnd3.fs (by have := OwnE.len hnd3.fs; omega)
  have b4 : Below w3.heap.size w3 (w3.alloc (.cells #[.slice a3 n3 c3, .int .i64 op', .slice fa3 m3 fc3, .bool dn'] 29)) := (Below.refl _ _).alloc (Nat.le_refl _) _
  have x4 : DK (w3.alloc (.cells #[.slice a3 n3 c3, .int .i64 op', .slice fa3 m3 fc3, .bool dn'] 29)) w3.heap.size a3 n3 c3 op' fa3 m3 fc3 dn' qs3 fs := ⟨c3'.keep b4, f3'.keep b4, Blk.new w3 _ _⟩
  have d4 := d3.keep b4
  have B4 := below_v B3 b4
  clear d2 d3 B2 B3 b3 b4 hnd3 hql3 c3' f3'
  obtain ⟨q0, q1, q2, q3⟩ := d4.b.dev
  go_wp2_with fail
  obtain ⟨W4, hW4⟩ : ∃ W, w3.alloc (.cells #[.slice a3 n3 c3, .int .i64 op', .slice fa3 m3 fc3, .bool dn'] 29) = W := ⟨_, rfl⟩
  obtain ⟨Y, hY⟩ : ∃ X, w3.heap.size = X := ⟨_, rfl⟩
  rw [hW4, hY] at x4
  rw [hW4] at B4 d4
  try rw [hW4]
  try rw [hY]
  clear hW4 hY q0 q1 q2 q3
  refine (HCS.out W4 d4.c d4.f).mono ?_
  rintro e w5 ⟨a5, n5, c5, fa5, m5, fc5, qs5, rfl, hnd5, hql5, b5⟩
  dsimp only at hnd5 ⊢
  have hD5 : qs5.map BkR.D = ds' := hnd5.bs.D
  have c5' : CR w5 a5 n5 qs5 := hnd5.cr hql5 htot'
  have b6 : Below w5.heap.size w5 (w5.alloc (.cells #[.slice a5 n5 c5, .int .i64 op', .slice fa5 m5 fc5, .bool dn'] 29)) := (Below.refl _ _).alloc (Nat.le_refl _) _
  have x6 := (x4.keep b5).keep b6
  have d6 := (d4.keep b5).keep b6
  have y6 := Blk.new w5 29 #[.slice a5 n5 c5, .int .i64 op', .slice fa5 m5 fc5, .bool dn']
  have c6 := c5'.keep b6
  have B6 := below_v (below_v B4 b5) b6
  have hn35 : n3 = n5 := by
    have h1 := x4.c.len
    have h2 := c5'.len
    have h3 : (qs3.map BkR.D).length = (qs5.map BkR.D).length := by rw [hD3, hD5]
    simp at h3
    omega
  subst hn35
  clear x4 d4 B4 b5 b6 hnd5 hql5 c5'
  obtain ⟨q0, q1, q2, q3⟩ := x6.b.dev
  obtain ⟨p0, p1, p2, p3⟩ := y6.dev
  go_wp2_with fail
  obtain ⟨W6, hW6⟩ : ∃ W, w5.alloc (.cells #[.slice a5 n3 c5, .int .i64 op', .slice fa5 m5 fc5, .bool dn'] 29) = W := ⟨_, rfl⟩
  obtain ⟨Z, hZ⟩ : ∃ X, w5.heap.size = X := ⟨_, rfl⟩
  rw [hW6] at x6 d6 c6 B6 y6
  rw [hZ] at y6
  try rw [hW6]
  try rw [hZ]
  clear hW6 hZ q0 q1 q2 q3 p0 p1 p2 p3
  refine (sameChip_same a3 a5 n3 c3 c5 qs3 qs5 W6 x6.c c6 (hD3.trans hD5.symm)).mono ?_
  rintro e w7 ⟨rfl, b7⟩
  have x7 := x6.keep b7
  have d7 := d6.keep b7
  have y7 := y6.keep b7
  have B7 := below_v B6 b7
  clear x6 d6 y6 c6 B6 b7
  obtain ⟨q0, q1, q2, q3⟩ := x7.b.dev
  obtain ⟨p0, p1, p2, p3⟩ := y7.dev
  obtain ⟨r0, r1, r2, r3⟩ := d7.b.dev
  rcases HER.out with ⟨hds, hop, hdn, hcd⟩ | ⟨hop, hok, k, b, hxk, hb, hcase⟩
  · have hcb : (cd != 0) = true := by simpa using hcd
    subst hop
    have hn3 : n3 = vn := by
      have h1 := x7.c.len
      have h2 := d7.c.len
      have h3 : (qs3.map BkR.D).length = (qs.map BkR.D).length := by rw [hD3, HDS.out, hds]
      simp at h3
      omega
    subst hn3
    go_wp2_with fail
    refine (sameChip_same a3 va n3 c3 vc qs3 qs w7 x7.c d7.c (by rw [hD3, HDS.out, hds])).mono ?_
    rintro e w8 ⟨rfl, b8⟩
    go_wp2
    go_ret
    exact ⟨by simp, below_v B7 b8⟩
  · have hopb : (op' == op) = false := by simp; omega
    subst hxk
    clear hop
    have hkl : k < ds.length := (List.getElem?_eq_some_iff.1 hb).1
    have hks : ((k : Nat) : Int) < 1000000 := by have := d7.c.n; have := d7.c.len; have h3 : (qs.map BkR.D).length = ds.length := by rw [HDS.out]
                                                 simp at h3; omega
    have CN := fun (W : World) (h : CR W a3 n3 qs3) => nextI a3 n3 c3 qs3 (k : Int) W h
    have CD := fun (W : World) (h : CR W a3 n3 qs3) (hf : FR W fa3 m3 fs) => devOkI a3 n3 c3 qs3 op' fa3 m3 fc3 fs dn' W h hf
    have CO := fun (W : World) (h : CR W va vn qs) => nextI va vn vc qs (k : Int) W h
    rw [hD3] at CN CD
    rw [HDS.out] at CO
    rw [hok] at CD
    rcases hcase with ⟨hcd, hnx⟩ | ⟨hcd, hbd, hnx⟩ | ⟨hcd, hdn, hpg⟩
    · subst hcd
      rw [hnx] at CN
      clear hnx
      go_wp2_with fail
      refine (CN w7 x7.c).mono ?_
      rintro e w8 ⟨rfl, b8⟩
      have x8 := x7.keep b8
      have B8 := below_v B7 b8
      clear q0 q1 q2 q3 p0 p1 p2 p3 r0 r1 r2 r3
      obtain ⟨q0, q1, q2, q3⟩ := x8.b.dev
      go_wp2_with fail
      refine (CD w8 x8.c x8.f).mono ?_
      rintro e w9 ⟨rfl, b9⟩
      go_wp2
      go_ret
      exact ⟨rfl, below_v B8 b9⟩
    · subst hcd
      have HNX : Hid _ := hnx
      have HBD : Hid _ := hbd
      clear hnx hbd
      go_upto_region 13 with fail
      have hnx := HNX.out
      have hbd := HBD.out
      clear HNX HBD
      obtain ⟨N, hN⟩ : ∃ N, nextD ds (k : Int) = N := ⟨_, rfl⟩
      rw [hnx, hN] at CN
      rw [hN] at CO
      have hNN : (N == N) = true := by simp
      have hk3 : k < n3 := by
        have h1 := x7.c.len
        have h3 : (qs3.map BkR.D).length = ds.length := by rw [hD3, hbd, len_bad]
        simp at h3
        omega
      obtain ⟨bb, bo, r, ha3, _, hr, h3b, _, _⟩ := x7.c.some hk3
      subst ha3
      have hbad : r.bad = true := by
        have h1 : (qs3.map BkR.D)[k]? = some r.D := by rw [List.getElem?_map, hr]; rfl
        rw [hD3, hbd] at h1
        unfold badD at h1
        rw [hb] at h1
        dsimp only at h1
        rw [List.getElem?_set_self hkl] at h1
        have h2 := Option.some.inj h1
        have h4 : r.D.bad = true := by rw [← h2]
        exact h4
      have hki : (0 : Int) ≤ (k : Int) ∧ (k : Int) < (n3 : Int) := by omega
      have C1 : Hid (∀ W : World, Below w7.heap.size w7 W → Calls Tryz.prog 11 #[.agg #[.slice (some ⟨bb, bo, none⟩) n3 c3], .int .i64 (k : Int)] W fun e w' => e = .returned (.int .i64 N) ∧ Below W.heap.size W w') := fun W hW => CN W (x7.keep hW).c
      have C2 : Hid (∀ W : World, Below w7.heap.size w7 W → Calls Tryz.prog 11 #[.agg #[.slice va vn vc], .int .i64 (k : Int)] W fun e w' => e = .returned (.int .i64 N) ∧ Below W.heap.size W w') := fun W hW => CO W (d7.keep hW).c
      have C3 : Hid (∀ W : World, Below w7.heap.size w7 W → Calls Tryz.prog 17 #[.agg #[.slice (some ⟨bb, bo, none⟩) n3 c3, .int .i64 op', .slice fa3 m3 fc3, .bool dn']] W fun e w' => e = .returned (.bool true) ∧ Below W.heap.size W w') := fun W hW => CD W (x7.keep hW).c (x7.keep hW).f
      have HX : Hid (∀ W : World, Below w7.heap.size w7 W → (fun W : World => W.cell? ⟨Y, 0, none⟩ = some (.slice (some ⟨bb, bo, none⟩) n3 c3) ∧ W.cell? ⟨Y, 1, none⟩ = some (.int .i64 op') ∧ W.cell? ⟨Y, 2, none⟩ = some (.slice fa3 m3 fc3) ∧ W.cell? ⟨Y, 3, none⟩ = some (.bool dn') ∧ W.cell? ⟨X, 0, none⟩ = some (.slice va vn vc) ∧ W.cell? ⟨bb, bo + k * 3 + 2, none⟩ = some (.bool true)) W) := fun W hW => by
        obtain ⟨i0, i1, i2, i3⟩ := (x7.keep hW).b.dev
        obtain ⟨j0, j1, j2, j3⟩ := (d7.keep hW).b.dev
        obtain ⟨bb2, bo2, r2, ha2, _, hr2, h3b2, _, _⟩ := (x7.keep hW).c.some hk3
        simp only [Option.some.injEq, Addr.mk.injEq, and_true] at ha2
        obtain ⟨hx1, hx2⟩ := ha2
        subst hx1 hx2
        rw [hr] at hr2
        have hrr := Option.some.inj hr2
        subst hrr
        have h5 := h3b2.c2
        rw [hbad] at h5
        exact ⟨i0, i1, i2, i3, j0, h5⟩
      clear q0 q1 q2 q3 p0 p1 p2 p3 r0 r1 r2 r3
      obtain ⟨q0, q1, q2, q3⟩ := x7.b.dev
      obtain ⟨r0, r1, r2, r3⟩ := d7.b.dev
      have x0 := h3b.c2
      rw [hbad] at x0
      clear CN CO CD x7 d7 y7 h3b hr hb hD5 hnx hN hbd
      refine wp_region_noPanic ?_
      refine wp_region_held_drew (S := fun W : World => W.cell? ⟨Y, 0, none⟩ = some (.slice (some ⟨bb, bo, none⟩) n3 c3) ∧ W.cell? ⟨Y, 1, none⟩ = some (.int .i64 op') ∧ W.cell? ⟨Y, 2, none⟩ = some (.slice fa3 m3 fc3) ∧ W.cell? ⟨Y, 3, none⟩ = some (.bool dn') ∧ W.cell? ⟨X, 0, none⟩ = some (.slice va vn vc) ∧ W.cell? ⟨bb, bo + k * 3 + 2, none⟩ = some (.bool true)) (by kernel_rfl) (by go_keep) (fun hS => ?_)
      refine wpAnyH_take (i := 0) (v := ?v1) rfl (by kernel_rfl) (by kernel_rfl) (by kernel_rfl) (fun _ _ _ h => h) (Or.inl ⟨by kernel_rfl, ?y1⟩) (by assumption) ?r1
      case y1 => (intro w' hSw; (try dsimp only at hSw); go_simp; (try with_reducible rfl))
      try simp only [Act.put, List.setIfInBounds_toArray, List.set_cons_zero, List.set_cons_succ, List.getElem_toArray, List.getElem_cons_zero]
      refine wpAnyH_take (i := 1) (v := ?v2) rfl (by kernel_rfl) (by kernel_rfl) (by kernel_rfl) (fun _ _ _ h => h) (Or.inl ⟨by kernel_rfl, ?y2⟩) (by assumption) ?r2
      case y2 => (intro w' hSw; (try dsimp only at hSw); go_simp; (try with_reducible rfl))
      try simp only [Act.put, List.setIfInBounds_toArray, List.set_cons_zero, List.set_cons_succ, List.getElem_toArray, List.getElem_cons_succ, List.getElem_cons_zero]
      refine wpAnyH_take (i := 2) (v := ?v3) rfl (by kernel_rfl) (by kernel_rfl) (by kernel_rfl) (fun _ _ _ h => h) (Or.inl ⟨by kernel_rfl, ?y3⟩) (by assumption) ?r3
      case y3 => (intro w' hSw; (try dsimp only at hSw); go_simp; (try with_reducible rfl))
      try simp only [Act.put, List.setIfInBounds_toArray, List.set_cons_zero, List.set_cons_succ, List.getElem_toArray, List.getElem_cons_succ, List.getElem_cons_zero]
      refine wpAnyH_take (i := 3) (v := ?v4) rfl (by kernel_rfl) (by kernel_rfl) (by kernel_rfl) (fun _ _ _ h => h) (Or.inl ⟨by kernel_rfl, ?y4⟩) (by assumption) ?r4
      case y4 => (intro w' hSw; (try dsimp only at hSw); go_simp; (try with_reducible rfl))
      try simp only [Act.put, List.setIfInBounds_toArray, List.set_cons_zero, List.set_cons_succ, List.getElem_toArray, List.getElem_cons_succ, List.getElem_cons_zero]
      refine wpAnyH_take (i := 4) (v := ?v5) rfl (by kernel_rfl) (by kernel_rfl) (by kernel_rfl) (fun _ _ _ h => h) (Or.inl ⟨by kernel_rfl, ?y5⟩) (by assumption) ?r5
      case y5 => (intro w' hSw; (try dsimp only at hSw); go_simp; (try with_reducible rfl))
      try simp only [Act.put, List.setIfInBounds_toArray, List.set_cons_zero, List.set_cons_succ, List.getElem_toArray, List.getElem_cons_succ, List.getElem_cons_zero]
      refine wpAnyH_take (i := 5) (v := ?v6) rfl (by kernel_rfl) (by kernel_rfl) (by kernel_rfl) (fun _ _ _ h => h) (Or.inl ⟨by kernel_rfl, ?y6⟩) (by assumption) ?r6
      case y6 => (intro w' hSw; (try dsimp only at hSw); go_simp; (try with_reducible rfl))
      try simp only [Act.put, List.setIfInBounds_toArray, List.set_cons_zero, List.set_cons_succ, List.getElem_toArray, List.getElem_cons_succ, List.getElem_cons_zero]
      refine wpAnyH_take (i := 6) (v := ?v7) rfl (by kernel_rfl) (by kernel_rfl) (by kernel_rfl) (fun _ _ _ h => h) (Or.inl ⟨by kernel_rfl, ?y7⟩) (by assumption) ?r7
      case y7 => (intro w' hSw; (try dsimp only at hSw); go_simp; (try with_reducible rfl))
      try simp only [Act.put, List.setIfInBounds_toArray, List.set_cons_zero, List.set_cons_succ, List.getElem_toArray, List.getElem_cons_succ, List.getElem_cons_zero]
      refine wpAnyH_take (i := 7) (v := ?v8) rfl (by kernel_rfl) (by kernel_rfl) (by kernel_rfl) (fun _ _ _ h => h) (Or.inl ⟨by kernel_rfl, ?y8⟩) (by assumption) ?r8
      case y8 => (intro w' hSw; (try dsimp only at hSw); go_simp; (try with_reducible rfl))
      try simp only [Act.put, List.setIfInBounds_toArray, List.set_cons_zero, List.set_cons_succ, List.getElem_toArray, List.getElem_cons_succ, List.getElem_cons_zero]
      refine wpAnyH_take (i := 8) (v := ?v9) rfl (by kernel_rfl) (by kernel_rfl) (by kernel_rfl) (fun _ _ _ h => h) (Or.inl ⟨by kernel_rfl, ?y9⟩) (by assumption) ?r9
      case y9 => (intro w' hSw; (try dsimp only at hSw); go_simp; (try with_reducible rfl))
      try simp only [Act.put, List.setIfInBounds_toArray, List.set_cons_zero, List.set_cons_succ, List.getElem_toArray, List.getElem_cons_succ, List.getElem_cons_zero]
      refine wpAnyH_take (i := 9) (v := ?v10) rfl (by kernel_rfl) (by kernel_rfl) (by kernel_rfl) (fun _ _ _ h => h) (Or.inl ⟨by kernel_rfl, ?y10⟩) (by assumption) ?r10
      case y10 => (intro w' hSw; (try dsimp only at hSw); go_simp; (try with_reducible rfl))
      try simp only [Act.put, List.setIfInBounds_toArray, List.set_cons_zero, List.set_cons_succ, List.getElem_toArray, List.getElem_cons_succ, List.getElem_cons_zero]
      refine wpAnyH_take (i := 10) (v := ?v11) rfl (by kernel_rfl) (by kernel_rfl) (by kernel_rfl) (fun _ _ _ h => h) (Or.inl ⟨by kernel_rfl, ?y11⟩) (by assumption) ?r11
      case y11 => (intro w' hSw; (try dsimp only at hSw); go_simp; (try with_reducible rfl))
      try simp only [Act.put, List.setIfInBounds_toArray, List.set_cons_zero, List.set_cons_succ, List.getElem_toArray, List.getElem_cons_succ, List.getElem_cons_zero]
      refine wpAnyH_take (i := 12) (v := ?v12) rfl (by kernel_rfl) (by kernel_rfl) (by kernel_rfl) (fun _ _ _ h => h) (Or.inl ⟨by kernel_rfl, ?y12⟩) (by assumption) ?r12
      case y12 => (intro w' hSw; (try dsimp only at hSw); go_simp; (try with_reducible rfl))
      try simp only [Act.put, List.setIfInBounds_toArray, List.set_cons_zero, List.set_cons_succ, List.getElem_toArray, List.getElem_cons_succ, List.getElem_cons_zero]
      refine wpAnyH_take (i := 13) (v := ?v13) rfl (by kernel_rfl) (by kernel_rfl) (by kernel_rfl) (fun _ _ _ h => h) (Or.inl ⟨by kernel_rfl, ?y13⟩) (by assumption) ?r13
      case y13 => (intro w' hSw; (try dsimp only at hSw); go_simp; (try with_reducible rfl))
      try simp only [Act.put, List.setIfInBounds_toArray, List.set_cons_zero, List.set_cons_succ, List.getElem_toArray, List.getElem_cons_succ, List.getElem_cons_zero]
      refine wpAnyH_take (i := 14) (v := ?v14) rfl (by kernel_rfl) (by kernel_rfl) (by kernel_rfl) (fun _ _ _ h => h) (Or.inl ⟨by kernel_rfl, ?y14⟩) (by assumption) ?r14
      case y14 => (intro w' hSw; (try dsimp only at hSw); go_simp; (try with_reducible rfl))
      try simp only [Act.put, List.setIfInBounds_toArray, List.set_cons_zero, List.set_cons_succ, List.getElem_toArray, List.getElem_cons_succ, List.getElem_cons_zero]
      refine wpAnyH_ready (rs := [11]) (by kernel_rfl) (by simp) ?_
      refine AllReadyH.cons rfl (fun K hK => ?_) AllReadyH.nil
      go_simp
      go_at_call 11
      (with_reducible refine (C1.out w7.drew (Below.refl _ w7).drew).mono ?_)
      rintro e v1 ⟨rfl, cv1⟩
      have Dv1 := below_v (Below.refl _ w7).drew cv1
      clear hS
      dsimp only
      refine Shut.out hK _ _ (HX.out v1 Dv1) (fun hS => ?_)
      try simp only [Act.put, List.setIfInBounds_toArray, List.set_cons_zero, List.set_cons_succ, List.getElem_toArray, List.getElem_cons_succ, List.getElem_cons_zero]
      refine wpAnyH_ready (rs := [15]) (by kernel_rfl) (by simp) ?_
      refine AllReadyH.cons rfl (fun K hK => ?_) AllReadyH.nil
      go_simp
      go_at_call 11
      (with_reducible refine (C2.out v1 Dv1).mono ?_)
      rintro e v2 ⟨rfl, cv2⟩
      have Dv2 := below_v Dv1 cv2
      clear hS
      dsimp only
      refine Shut.out hK _ _ (HX.out v2 Dv2) (fun hS => ?_)
      try simp only [Act.put, List.setIfInBounds_toArray, List.set_cons_zero, List.set_cons_succ, List.getElem_toArray, List.getElem_cons_succ, List.getElem_cons_zero]
      refine wpAnyH_take (i := 16) (v := ?v15) rfl (by kernel_rfl) (by kernel_rfl) (by kernel_rfl) (fun _ _ _ h => h) (Or.inl ⟨by kernel_rfl, ?y15⟩) (by assumption) ?r15
      case y15 => (intro w' hSw; (try dsimp only at hSw); go_simp; (try with_reducible rfl))
      try simp only [Act.put, List.setIfInBounds_toArray, List.set_cons_zero, List.set_cons_succ, List.getElem_toArray, List.getElem_cons_succ, List.getElem_cons_zero]
      refine wpAnyH_take (i := 17) (v := ?v16) rfl (by kernel_rfl) (by kernel_rfl) (by kernel_rfl) (fun _ _ _ h => h) (Or.inl ⟨by kernel_rfl, ?y16⟩) (by assumption) ?r16
      case y16 => (intro w' hSw; (try dsimp only at hSw); go_simp; (try with_reducible rfl))
      try simp only [Act.put, List.setIfInBounds_toArray, List.set_cons_zero, List.set_cons_succ, List.getElem_toArray, List.getElem_cons_succ, List.getElem_cons_zero]
      refine wpAnyH_take (i := 18) (v := ?v17) rfl (by kernel_rfl) (by kernel_rfl) (by kernel_rfl) (fun _ _ _ h => h) (Or.inl ⟨by kernel_rfl, ?y17⟩) (by assumption) ?r17
      case y17 => (intro w' hSw; (try dsimp only at hSw); go_simp; (try with_reducible rfl))
      try simp only [Act.put, List.setIfInBounds_toArray, List.set_cons_zero, List.set_cons_succ, List.getElem_toArray, List.getElem_cons_succ, List.getElem_cons_zero]
      refine wpAnyH_take (i := 19) (v := ?v18) rfl (by kernel_rfl) (by kernel_rfl) (by kernel_rfl) (fun _ _ _ h => h) (Or.inl ⟨by kernel_rfl, ?y18⟩) (by assumption) ?r18
      case y18 => (intro w' hSw; (try dsimp only at hSw); go_simp; (try with_reducible rfl))
      try simp only [Act.put, List.setIfInBounds_toArray, List.set_cons_zero, List.set_cons_succ, List.getElem_toArray, List.getElem_cons_succ, List.getElem_cons_zero]
      refine wpAnyH_ready (rs := [20]) (by kernel_rfl) (by simp) ?_
      refine AllReadyH.cons rfl (fun K hK => ?_) AllReadyH.nil
      go_simp
      go_at_call 17
      (with_reducible refine (C3.out v2 Dv2).mono ?_)
      rintro e v3 ⟨rfl, cv3⟩
      have Dv3 := below_v Dv2 cv3
      clear hS
      dsimp only
      refine Shut.out hK _ _ (HX.out v3 Dv3) (fun hS => ?_)
      try simp only [Act.put, List.setIfInBounds_toArray, List.set_cons_zero, List.set_cons_succ, List.getElem_toArray, List.getElem_cons_succ, List.getElem_cons_zero]
      refine wpAnyH_take (i := 21) (v := ?v19) rfl (by kernel_rfl) (by kernel_rfl) (by kernel_rfl) (fun _ _ _ h => h) (Or.inl ⟨by kernel_rfl, ?y19⟩) (by assumption) ?r19
      case y19 => (intro w' hSw; (try dsimp only at hSw); go_simp; (try with_reducible rfl))
      try simp only [Act.put, List.setIfInBounds_toArray, List.set_cons_zero, List.set_cons_succ, List.getElem_toArray, List.getElem_cons_succ, List.getElem_cons_zero]
      refine wpAnyH_take (i := 22) (v := ?v20) rfl (by kernel_rfl) (by kernel_rfl) (by kernel_rfl) (fun _ _ _ h => h) (Or.inl ⟨by kernel_rfl, ?y20⟩) (by assumption) ?r20
      case y20 => (intro w' hSw; (try dsimp only at hSw); go_simp; (try with_reducible rfl))
      try simp only [Act.put, List.setIfInBounds_toArray, List.set_cons_zero, List.set_cons_succ, List.getElem_toArray, List.getElem_cons_succ, List.getElem_cons_zero]
      refine wpAnyH_done (by kernel_rfl) (NoPanic.normal ?_) _
      go_wp2
      go_ret
      exact ⟨rfl, below_v B7 Dv3⟩
    · subst hcd hdn
      have HPG : Hid _ := hpg
      have hx0 : Hid (DK w7 Y a3 n3 c3 op' fa3 m3 fc3 true qs3 fs ∧ Below w7.heap.size w7 w7) := ⟨x7, Below.refl _ _⟩
      have HB7 : Hid (Below w.heap.size w w7) := B7
      clear hpg hD5 B7 d7 x7 y7
      go_upto_region 14 with fail
      clear q0 q1 q2 q3 p0 p1 p2 p3 r0 r1 r2 r3
      go_wp2
      go_loopw [9] (fun i W => ∃ j : Nat, i = .int .i64 j ∧ j ≤ 8 ∧ Hid (DK W Y a3 n3 c3 op' fa3 m3 fc3 true qs3 fs ∧ Below w7.heap.size w7 W)) (fun i _ => 8 - (intOf i).toNat)
      case atStart => exact ⟨0, rfl, by omega, hx0⟩
      case round =>
        obtain ⟨j, rfl, hj, hxj⟩ := hrel
        clear hx0
        obtain ⟨xj, bj⟩ := hxj.out
        obtain ⟨q0, q1, q2, q3⟩ := xj.b.dev
        by_cases hj8 : j < 8
        · have hji : (j : Int) < 8 := by omega
          have hwj : IntKind.i64.wrap ((j : Int) + 1) = ((j + 1 : Nat) : Int) := by rw [IntKind.wrap_i64]; omega
          have hrd := readI a3 n3 c3 qs3 (k : Int) (j : Int) wr xj.c
          rw [hD3] at hrd
          have hpj := HPG.out j hj8
          go_wp2_with fail
          refine hrd.mono ?_
          rintro e w8 ⟨⟨v, rfl, hov, _⟩, b8⟩
          rw [hpj] at hov
          obtain ⟨ra, rc, rfl, _, _⟩ := OwnV.slc hov
          have hx8 : Hid (DK w8 Y a3 n3 c3 op' fa3 m3 fc3 true qs3 fs ∧ Below w7.heap.size w7 w8) := ⟨xj.keep b8, below_v bj b8⟩
          clear q0 q1 q2 q3 hrd hov xj bj hxj b8
          simp only [List.length_nil]
          go_wp2
          go_roundw
          case rel => exact ⟨j + 1, by congr 1, by omega, hx8⟩
          case measure => simp [intOf]; omega
        · have hji : ¬ (j : Int) < 8 := by omega
          go_wp2_with fail
          refine (CD wr xj.c xj.f).mono ?_
          rintro e w8 ⟨rfl, b8⟩
          go_wp2
          go_ret
          exact ⟨rfl, below_v (below_v HB7.out bj) b8⟩
end

section
open Go.RowKit
def ByteRow (w : World) (a : Option Addr) (len cap : Nat) (zs : List Int) : Prop :=
  (a = none ∧ len = 0 ∧ cap = 0 ∧ zs = []) ∨ ∃ x, a = some x ∧ len ≤ cap ∧ cap ≤ maxLen ∧ zs.length = cap ∧ (∀ i, i < zs.length → w.cell? (x.add i) = some (.int .u8 (zs.getD i 0))) ∧ ∀ n ∈ zs, (Lit.int .u8 n).wf = true
theorem walkFnDevErased (a0 : Option Addr) (len0 cap0 : Nat) (z0 : List Int) (w : World) (hbr : ByteRow w a0 len0 cap0 z0) (hg : EtCell w) :
    Calls Tryz.prog 4 #[.slice a0 len0 cap0] w fun e w' => e = .returned (.bool true) ∧ Below w.heap.size w w' := by
  obtain ⟨zs, hn, hr, hb⟩ := rd_of_row hbr
  exact walkDevErased a0 len0 cap0 zs w hn hr hb hg
end
end Go.Proofs.YtoeeblmnogeonaaGreatDoor


