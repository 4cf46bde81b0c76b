/-
  Joined: ChEi, ChEn.
-/
import Derived.Test.YtcohppfocfepdaaDoorJ14P
import Derived.Test.YtcohppfocfepdaaDoorJ15P
namespace Go.Proofs.YtcohppfocfepdaaDoor
section
open Go.RowKit
set_option maxHeartbeats 1600000 in
theorem hasCl (a : Option Addr) (n cap : Nat) (x : Int) (w : World) (_hn : n ≤ 1048576) :
    Calls Tryd.prog 64 #[.slice a n cap, .int .i64 x] w fun e w' => e = .returned (.bool (decide (0 ≤ x) && decide (x < (n : Int)))) ∧ w' = w := by
  go_enter Tryd.func64, Tryd.ntmps64
  by_cases h1 : 0 ≤ x
  · by_cases h2 : x < (n : Int)
    · go_wp2
      go_ret
      exact ⟨by simp [h1, h2], rfl⟩
    · go_wp2
      go_ret
      exact ⟨by simp [h2], rfl⟩
  · go_wp2
    go_ret
    exact ⟨by simp; omega, rfl⟩
/-- What blockToChange refuses. -/
def btcC (fs : List FkR) (x : Int) : Int := if x < 0 ∨ (fs.length : Int) ≤ x then 1 else if ((fs[x.toNat]?).map FkR.bad).getD false then 2 else 0
theorem btcC_in {fs : List FkR} {k : Nat} {f : FkR} (h : fs[k]? = some f) : btcC fs (k : Int) = if f.bad then 2 else 0 := by
  have hl := (List.getElem?_eq_some_iff.1 h).1
  unfold btcC
  rw [if_neg (by omega)]
  simp [h]
set_option maxRecDepth 100000 in
set_option maxHeartbeats 4000000 in
theorem btcI (F G n : Nat) (fs : List FkR) (x : Int) (w0 w : World) (hn : n ≤ 1048576) (h : FO w0 w F G n fs) :
    Calls Tryd.prog 57 #[.pointer (some ⟨F, 0, none⟩), .int .i64 x] w fun e w' => e = .returned (.tuple #[if btcC fs x = 0 then .pointer (some ⟨G, x.toNat * 18, none⟩) else .pointer none, errV (btcC fs x)]) ∧ w' = w := by
  have x0 := h.f.cell 0
  simp at x0
  have hl : fs.length = n := h.g.len
  by_cases hx : 0 ≤ x ∧ x < (n : Int)
  · obtain ⟨k, rfl⟩ : ∃ k : Nat, x = (k : Int) := ⟨x.toNat, by omega⟩
    have hkn : k < n := by omega
    have hki : (k : Int) < (n : Int) := by omega
    have hkk : ¬ (k : Int) < 0 := by omega
    obtain ⟨f, hf⟩ : ∃ f, fs[k]? = some f := ⟨_, List.getElem?_eq_getElem (by omega)⟩
    have c17 : w.cell? ⟨G, k * 18 + 17, none⟩ = some (.bool f.bad) := by
      rw [h.cell hf (by omega)]
      show (pgE.xv f.ps ++ [Value.int .i64 f.wear, Value.bool f.bad])[17]? = _
      rw [List.getElem?_append_right (by rw [xv16]; omega), xv16]
      rfl
    rw [btcC_in hf]
    obtain ⟨bad, hb⟩ : ∃ bad, f.bad = bad := ⟨_, rfl⟩
    rw [hb] at c17 ⊢
    have hcall := hasCl (some ⟨G, 0, none⟩) n n (k : Int) w hn
    rw [show (decide (0 ≤ (k : Int)) && decide ((k : Int) < (n : Int))) = true by simp; omega] at hcall
    clear h hf hb hl hx
    cases bad with
    | true =>
      go_enter Tryd.func57, Tryd.ntmps57
      go_wp2_with fail
      refine hcall.mono ?_
      rintro e w1 ⟨rfl, hw⟩
      obtain rfl := hw.symm
      go_wp2
      refine bodyPost_ret (v := .tuple #[.pointer none, .iface 90 (.int .i64 2)]) (by simp [results, Tryd.f57, go_sem]) rfl ?_
      exact ⟨by simp [errV], rfl⟩
    | false =>
      go_enter Tryd.func57, Tryd.ntmps57
      go_wp2_with fail
      refine hcall.mono ?_
      rintro e w1 ⟨rfl, hw⟩
      obtain rfl := hw.symm
      go_wp2
      refine bodyPost_ret (v := .tuple #[.pointer (some ⟨G, k * 18, none⟩), .nilIface]) (by simp [results, Tryd.f57, go_sem]) rfl ?_
      exact ⟨by simp [errV], rfl⟩
  · have hc : btcC fs x = 1 := by unfold btcC; rw [if_pos (by omega)]
    rw [hc]
    have hcall := hasCl (some ⟨G, 0, none⟩) n n x w hn
    rw [show (decide (0 ≤ x) && decide (x < (n : Int))) = false by rw [← Bool.not_eq_true]; intro h'; simp at h'; exact hx h'] at hcall
    clear h hc hl hx
    go_enter Tryd.func57, Tryd.ntmps57
    go_wp2_with fail
    refine hcall.mono ?_
    rintro e w1 ⟨rfl, hw⟩
    obtain rfl := hw.symm
    go_wp2
    refine bodyPost_ret (v := .tuple #[.pointer none, .iface 90 (.int .i64 1)]) (by simp [results, Tryd.f57, go_sem]) rfl ?_
    exact ⟨by simp [errV], rfl⟩
/-- Pages into a block, from a place on. -/
def FkR.pgs (f : FkR) (j : Nat) : List PgR → FkR
  | [] => f
  | q :: qs => (f.pg j q).pgs (j + 1) qs
theorem set_same {α : Type} {l : List α} {k : Nat} {f : α} (h : l[k]? = some f) : l.set k f = l := by
  refine List.ext_getElem? fun i => ?_
  rw [List.getElem?_set]
  by_cases he : k = i
  · subst he
    rw [if_pos rfl, if_pos (List.getElem?_eq_some_iff.1 h).1, h]
  · rw [if_neg he]
theorem FO.put {w0 : World} {F G n k : Nat} : ∀ (qs : List PgR) (j : Nat) (wr : World) (fs : List FkR) (f : FkR), FO w0 wr F G n fs → fs[k]? = some f → j + qs.length ≤ 8 → FO w0 (wr.setCells G (k * 18 + j * 2) (pgE.xv qs)) F G n (fs.set k (f.pgs j qs))
  | [], j, wr, fs, f, h, hk, _ => by rw [show fs.set k (f.pgs j []) = fs from set_same hk]; exact h
  | q :: qs, j, wr, fs, f, h, hk, hj => by
    have h1 := h.page (p := q) hk (j := j) (by simp at hj; omega) rfl
    have h2 := FO.put qs (j + 1) _ _ _ h1 (get_set hk) (by simp at hj; omega)
    rw [List.set_set, show k * 18 + (j + 1) * 2 = k * 18 + j * 2 + 1 + 1 by omega] at h2
    exact h2
theorem pgs_8 (f : FkR) : f.pgs 0 (List.replicate 8 pgZ) = ⟨List.replicate 8 pgZ, f.wear, f.bad, rfl⟩ := by
  obtain ⟨q0, q1, q2, q3, q4, q5, q6, q7, hq⟩ := list8 f.h8
  refine FkR.ext' ?_ rfl rfl
  simp [FkR.pgs, FkR.pg, List.replicate, hq]
theorem Tryd.sizePages : (Tryd.prog.info? 87).map (·.size) = some 16 := by kernel_rfl
/-- What erase refuses; the flash behind it. -/
def erC (fs : List FkR) (x : Int) : Int := if btcC fs x = 0 then (if (fs[x.toNat]?).map FkR.wear = some 100000 then 5 else 0) else btcC fs x
def erAt (fs : List FkR) (k : Nat) : List FkR := match fs[k]? with | some f => fs.set k ⟨List.replicate 8 pgZ, f.wear + 1, f.bad, rfl⟩ | none => fs
def erF (fs : List FkR) (x : Int) : List FkR := if erC fs x = 0 then erAt fs x.toNat else fs
def ErA (w0 : World) (F G n : Nat) (fs : List FkR) (x : Int) (e : Ending) (w' : World) : Prop := e = .returned (errV (erC fs x)) ∧ FO w0 w' F G n (erF fs x)
theorem btc_zero {fs : List FkR} {x : Int} (h : btcC fs x = 0) : ∃ (k : Nat) (f : FkR), x = (k : Int) ∧ fs[k]? = some f := by
  unfold btcC at h
  split at h
  · omega
  · obtain ⟨k, rfl⟩ : ∃ k : Nat, x = (k : Int) := ⟨x.toNat, by omega⟩
    exact ⟨k, _, rfl, List.getElem?_eq_getElem (by omega)⟩
end

section
open Go.RowKit
set_option maxRecDepth 100000 in
set_option maxHeartbeats 4000000 in
theorem bteI (F G n : Nat) (fs : List FkR) (x : Int) (w0 w : World) (hn : n ≤ 1048576) (h : FO w0 w F G n fs) :
    Calls Tryd.prog 44 #[.pointer (some ⟨F, 0, none⟩), .int .i64 x] w fun e w' => e = .returned (.tuple #[if erC fs x = 0 then .pointer (some ⟨G, x.toNat * 18, none⟩) else .pointer none, errV (erC fs x)]) ∧ w' = w := by
  have hcall := btcI F G n fs x w0 w hn h
  by_cases hc : btcC fs x = 0
  · obtain ⟨k, f, rfl, hf⟩ := btc_zero hc
    rw [if_pos hc, hc, errV_zero, Int.toNat_natCast] at hcall
    have c16 : w.cell? ⟨G, k * 18 + 16, none⟩ = some (.int .i64 f.wear) := by
      rw [h.cell hf (by omega)]
      show (pgE.xv f.ps ++ [Value.int .i64 f.wear, Value.bool f.bad])[16]? = _
      rw [List.getElem?_append_right (by rw [xv16]; omega), xv16]
      rfl
    have hee : erC fs (k : Int) = if f.wear = 100000 then 5 else 0 := by unfold erC; rw [if_pos hc]; simp [hf]
    rw [hee, Int.toNat_natCast]
    generalize f.wear = wear at c16
    clear h hf hc hee
    by_cases h5 : wear = 100000
    · subst h5
      go_enter Tryd.func44, Tryd.ntmps44
      go_wp2_with fail
      refine hcall.mono ?_
      rintro e w1 ⟨rfl, hw⟩
      obtain rfl := hw.symm
      go_wp2
      refine bodyPost_ret (v := .tuple #[.pointer none, .iface 90 (.int .i64 5)]) (by simp [results, Tryd.f44, go_sem]) rfl ?_
      exact ⟨by simp [errV], rfl⟩
    · have h5b : (wear == 100000) = false := by simp [h5]
      rw [if_neg h5]
      go_enter Tryd.func44, Tryd.ntmps44
      go_wp2_with fail
      refine hcall.mono ?_
      rintro e w1 ⟨rfl, hw⟩
      obtain rfl := hw.symm
      go_wp2
      refine bodyPost_ret (v := .tuple #[.pointer (some ⟨G, k * 18, none⟩), .nilIface]) (by simp [results, Tryd.f44, go_sem]) rfl ?_
      exact ⟨by simp [errV], rfl⟩
  · have hee : erC fs x = btcC fs x := by unfold erC; rw [if_neg hc]
    rw [if_neg hc, errV_some hc] at hcall
    rw [hee, if_neg hc, errV_some hc]
    generalize btcC fs x = c at hcall
    clear h hc hee
    go_enter Tryd.func44, Tryd.ntmps44
    go_wp2_with fail
    refine hcall.mono ?_
    rintro e w1 ⟨rfl, hw⟩
    obtain rfl := hw.symm
    go_wp2
    refine bodyPost_ret (v := .tuple #[.pointer none, .iface 90 (.int .i64 c)]) (by simp [results, Tryd.f44, go_sem]) rfl ?_
    exact ⟨rfl, rfl⟩
/-- What is done to a flash's row alone. -/
def FOA (w0 w : World) (F G n : Nat) (fs : List FkR) (e : Ending) (w' : World) : Prop := e = .returned (.tuple #[]) ∧ FO w0 w' F G n fs ∧ Sv [G] w w'
theorem setCells_sv (w : World) (G : Nat) : ∀ (vs : List Value) (o : Nat), Sv [G] w (w.setCells G o vs)
  | [], _ => Sv.refl _ _
  | v :: vs, o => (Sv.gr (gr_setC w G o v) (fun g hg => by simp at hg; simp [hg])).trans (setCells_sv (w.setCell ⟨G, o, none⟩ v) G vs (o + 1))
set_option maxRecDepth 100000 in
set_option maxHeartbeats 4000000 in
theorem cEraseI (F G n k : Nat) (fs : List FkR) (f : FkR) (w0 w : World) (h : FO w0 w F G n fs) (hf : fs[k]? = some f) (hw : 0 ≤ f.wear ∧ f.wear ≤ 100000) :
    Calls Tryd.prog 45 #[.pointer (some ⟨G, k * 18, none⟩)] w (FOA w0 w F G n (erAt fs k)) := by
  obtain ⟨hw1, hw2⟩ := hw
  generalize hGP : FOA w0 w F G n (erAt fs k) = P
  have HGP : Hid _ := hGP
  clear hGP
  obtain ⟨wear, hwe⟩ : ∃ wear, f.wear = wear := ⟨_, rfl⟩
  rw [hwe] at hw1 hw2
  have hth : w.there G (k * 18) 16 := fun j hj => by
    obtain ⟨v, hv⟩ := h.is hf (j := j) (by omega)
    rw [hv]
    exact ⟨rfl, h.g.frozen _⟩
  have f6 := FO.put (k := k) (List.replicate 8 pgZ) 0 w fs f h hf (by simp)
  rw [pgs_8, Nat.zero_mul, Nat.add_zero] at f6
  have g6 := f6.one (j := 16) (x := .int .i64 (wear + 1)) (get_set hf) (by omega) (en_wear _ (wear + 1))
  rw [List.set_set] at g6
  have hgs : erAt fs k = fs.set k (FkR.wearTo ⟨List.replicate 8 pgZ, f.wear, f.bad, rfl⟩ (wear + 1)) := by
    unfold erAt
    rw [hf]
    dsimp only
    rw [hwe]
    rfl
  rw [← hgs] at g6
  have c16' : (w.setCells G (k * 18) (pgE.xv (List.replicate 8 pgZ))).cell? ⟨G, k * 18 + 16, none⟩ = some (.int .i64 wear) := by
    rw [f6.cell (get_set hf) (by omega)]
    show (pgE.xv (List.replicate 8 pgZ) ++ [Value.int .i64 f.wear, Value.bool f.bad])[16]? = _
    rw [hwe]
    rfl
  have r16 := f6.g.frozen (k * 18 + 16)
  have hsv := (setCells_sv w G (pgE.xv (List.replicate 8 pgZ)) (k * 18)).trans (Sv.gr (gr_setC _ G (k * 18 + 16) (.int .i64 (wear + 1))) (fun g hg => by simp at hg; simp [hg]))
  have hxx : pgE.xv (List.replicate 8 pgZ) = (#[.bool false, .slice none 0 0, .bool false, .slice none 0 0, .bool false, .slice none 0 0, .bool false, .slice none 0 0, .bool false, .slice none 0 0, .bool false, .slice none 0 0, .bool false, .slice none 0 0, .bool false, .slice none 0 0] : Array Value).toList := rfl
  rw [hxx] at c16' r16 g6 hsv
  obtain ⟨Z, hZ⟩ : ∃ Z : Array Value, Z = #[.bool false, .slice none 0 0, .bool false, .slice none 0 0, .bool false, .slice none 0 0, .bool false, .slice none 0 0, .bool false, .slice none 0 0, .bool false, .slice none 0 0, .bool false, .slice none 0 0, .bool false, .slice none 0 0] := ⟨_, rfl⟩
  have hZs : Z.size = 16 := by rw [hZ]; rfl
  have hZ1 : Z.all (·.oneCell') = true := by rw [hZ]; simp [Value.oneCell']
  rw [← hZ] at c16' r16 g6 hsv
  have HZ : Hid _ := hZ
  have HTH : Hid (w.there G (k * 18) Z.size) := by rw [hZs]; exact hth
  have HS16 : Hid ((Tryd.prog.info? 87).map (·.size) = some Z.size) := by show _ = _; rw [Tryd.sizePages, hZs]
  have HZ1 : Hid _ := hZ1
  have HG6 : Hid _ := And.intro g6 hsv
  have hwr : IntKind.i64.wrap (wear + 1) = wear + 1 := wrap_small _ (by omega) (by omega)
  obtain ⟨W6, hW6⟩ : ∃ W, w.setCells G (k * 18) Z.toList = W := ⟨_, rfl⟩
  have HW6 : Hid _ := hW6
  rw [hW6] at c16' r16 HG6
  clear h hf hwe hth f6 g6 hgs hxx hZ hZs hZ1 hW6 hsv
  go_enter Tryd.func45, Tryd.ntmps45
  go_upto_region 1 with (refine wpList_store_mid rfl 87 (.tmp 5) (.tmp 3) rfl G (k * 18) Z rfl (by rw [HZ.out]; rfl) HTH.out HS16.out HZ1.out ?_; rw [HW6.out])
  go_wp2
  try go_end0
  rw [← HGP.out]
  exact ⟨rfl, HG6.out.1, HG6.out.2⟩
set_option maxRecDepth 100000 in
set_option maxHeartbeats 4000000 in
theorem eraseF (F G n : Nat) (fs : List FkR) (x : Int) (w0 w : World) (hn : n ≤ 1048576) (h : FO w0 w F G n fs) (hw : ∀ f ∈ fs, 0 ≤ f.wear ∧ f.wear ≤ 100000) :
    Calls Tryd.prog 23 #[.pointer (some ⟨F, 0, none⟩), .int .i64 x] w (ErA w0 F G n fs x) := by
  have hcall := bteI F G n fs x w0 w hn h
  generalize hGP : ErA w0 F G n fs x = P
  have HGP : Hid _ := hGP
  clear hGP
  by_cases hc : erC fs x = 0
  · obtain ⟨k, f, rfl, hf⟩ := btc_zero (fs := fs) (x := x) (by unfold erC at hc; split at hc <;> assumption)
    rw [if_pos hc, hc, errV_zero, Int.toNat_natCast] at hcall
    have hcall2 := cEraseI F G n k fs f w0 w h hf (hw f (List.mem_of_getElem? hf))
    have HE : Hid (erF fs (k : Int) = erAt fs k) := by show _ = _; unfold erF; rw [if_pos hc, Int.toNat_natCast]
    have HC : Hid _ := hc
    clear h hf hw hc
    go_enter Tryd.func23, Tryd.ntmps23
    go_wp2_with fail
    refine hcall.mono ?_
    rintro e w1 ⟨rfl, hw⟩
    obtain rfl := hw.symm
    go_wp2_with fail
    refine hcall2.mono ?_
    rintro e w2 ⟨rfl, hfo, _⟩
    go_wp2
    rw [← HGP.out]
    exact ⟨by rw [HC.out]; rfl, by rw [HE.out]; exact hfo⟩
  · rw [if_neg hc, errV_some hc] at hcall
    have HEE : Hid (erF fs x = fs ∧ ¬ erC fs x = 0) := ⟨by unfold erF; rw [if_neg hc], hc⟩
    have HFO : Hid _ := h
    obtain ⟨c, hcc⟩ : ∃ c, erC fs x = c := ⟨_, rfl⟩
    have HC : Hid _ := hcc
    rw [hcc] at hcall
    clear h hw hc hcc
    go_enter Tryd.func23, Tryd.ntmps23
    go_wp2_with fail
    refine hcall.mono ?_
    rintro e w1 ⟨rfl, hw⟩
    obtain rfl := hw.symm
    go_wp2
    rw [← HGP.out]
    obtain ⟨e2, e3⟩ := HEE.out
    exact ⟨by rw [errV_some e3, HC.out]; rfl, by rw [e2]; exact HFO.out⟩
end
end Go.Proofs.YtcohppfocfepdaaDoor
