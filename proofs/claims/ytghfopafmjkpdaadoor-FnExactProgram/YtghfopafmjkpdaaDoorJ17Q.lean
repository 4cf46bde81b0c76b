/-
  Joined: ChEi, ChCi.
-/
import Derived.Test.YtghfopafmjkpdaaDoorJ15Q
import Derived.Test.YtghfopafmjkpdaaDoorJ16Q
namespace Go.Proofs.YtghfopafmjkpdaaDoor
section
open Go.RowKit
set_option maxHeartbeats 1600000 in
theorem hasCl (a : Option Addr) (n cap : Nat) (x : Int) (w : World) (_hn : n ≤ 1048576) :
    Calls Tryd.prog 79 #[.slice a n cap, .int .i64 x] w fun e w' => e = .returned (.bool (decide (0 ≤ x) && decide (x < (n : Int)))) ∧ w' = w := by
  go_enter Tryd.func79, Tryd.ntmps79
  by_cases h1 : 0 ≤ x
  · by_cases h2 : x < (n : Int)
    · go_wp2
      go_ret
      exact ⟨by simp [h1, h2], rfl⟩
    · go_wp2
      go_ret
      exact ⟨by simp [h2], rfl⟩
  · go_wp2
    go_ret
    exact ⟨by simp; omega, rfl⟩
/-- What blockToChange refuses. -/
def btcC (fs : List FkR) (x : Int) : Int := if x < 0 ∨ (fs.length : Int) ≤ x then 1 else if ((fs[x.toNat]?).map FkR.bad).getD false then 2 else 0
theorem btcC_in {fs : List FkR} {k : Nat} {f : FkR} (h : fs[k]? = some f) : btcC fs (k : Int) = if f.bad then 2 else 0 := by
  have hl := (List.getElem?_eq_some_iff.1 h).1
  unfold btcC
  rw [if_neg (by omega)]
  simp [h]
set_option maxRecDepth 100000 in
set_option maxHeartbeats 4000000 in
theorem btcI (F G n : Nat) (fs : List FkR) (x : Int) (w0 w : World) (hn : n ≤ 1048576) (h : FO w0 w F G n fs) :
    Calls Tryd.prog 65 #[.pointer (some ⟨F, 0, none⟩), .int .i64 x] w fun e w' => e = .returned (.tuple #[if btcC fs x = 0 then .pointer (some ⟨G, x.toNat * 18, none⟩) else .pointer none, errV (btcC fs x)]) ∧ w' = w := by
  have x0 := h.f.cell 0
  simp at x0
  have hl : fs.length = n := h.g.len
  by_cases hx : 0 ≤ x ∧ x < (n : Int)
  · obtain ⟨k, rfl⟩ : ∃ k : Nat, x = (k : Int) := ⟨x.toNat, by omega⟩
    have hkn : k < n := by omega
    have hki : (k : Int) < (n : Int) := by omega
    have hkk : ¬ (k : Int) < 0 := by omega
    obtain ⟨f, hf⟩ : ∃ f, fs[k]? = some f := ⟨_, List.getElem?_eq_getElem (by omega)⟩
    have c17 : w.cell? ⟨G, k * 18 + 17, none⟩ = some (.bool f.bad) := by
      rw [h.cell hf (by omega)]
      show (pgE.xv f.ps ++ [Value.int .i64 f.wear, Value.bool f.bad])[17]? = _
      rw [List.getElem?_append_right (by rw [xv16]; omega), xv16]
      rfl
    rw [btcC_in hf]
    obtain ⟨bad, hb⟩ : ∃ bad, f.bad = bad := ⟨_, rfl⟩
    rw [hb] at c17 ⊢
    have hcall := hasCl (some ⟨G, 0, none⟩) n n (k : Int) w hn
    rw [show (decide (0 ≤ (k : Int)) && decide ((k : Int) < (n : Int))) = true by simp; omega] at hcall
    clear h hf hb hl hx
    cases bad with
    | true =>
      go_enter Tryd.func65, Tryd.ntmps65
      go_wp2_with fail
      refine hcall.mono ?_
      rintro e w1 ⟨rfl, hw⟩
      obtain rfl := hw.symm
      go_wp2
      refine bodyPost_ret (v := .tuple #[.pointer none, .iface 90 (.int .i64 2)]) (by simp [results, Tryd.f65, go_sem]) rfl ?_
      exact ⟨by simp [errV], rfl⟩
    | false =>
      go_enter Tryd.func65, Tryd.ntmps65
      go_wp2_with fail
      refine hcall.mono ?_
      rintro e w1 ⟨rfl, hw⟩
      obtain rfl := hw.symm
      go_wp2
      refine bodyPost_ret (v := .tuple #[.pointer (some ⟨G, k * 18, none⟩), .nilIface]) (by simp [results, Tryd.f65, go_sem]) rfl ?_
      exact ⟨by simp [errV], rfl⟩
  · have hc : btcC fs x = 1 := by unfold btcC; rw [if_pos (by omega)]
    rw [hc]
    have hcall := hasCl (some ⟨G, 0, none⟩) n n x w hn
    rw [show (decide (0 ≤ x) && decide (x < (n : Int))) = false by rw [← Bool.not_eq_true]; intro h'; simp at h'; exact hx h'] at hcall
    clear h hc hl hx
    go_enter Tryd.func65, Tryd.ntmps65
    go_wp2_with fail
    refine hcall.mono ?_
    rintro e w1 ⟨rfl, hw⟩
    obtain rfl := hw.symm
    go_wp2
    refine bodyPost_ret (v := .tuple #[.pointer none, .iface 90 (.int .i64 1)]) (by simp [results, Tryd.f65, go_sem]) rfl ?_
    exact ⟨by simp [errV], rfl⟩
/-- Pages into a block, from a place on. -/
def FkR.pgs (f : FkR) (j : Nat) : List PgR → FkR
  | [] => f
  | q :: qs => (f.pg j q).pgs (j + 1) qs
theorem set_same {α : Type} {l : List α} {k : Nat} {f : α} (h : l[k]? = some f) : l.set k f = l := by
  refine List.ext_getElem? fun i => ?_
  rw [List.getElem?_set]
  by_cases he : k = i
  · subst he
    rw [if_pos rfl, if_pos (List.getElem?_eq_some_iff.1 h).1, h]
  · rw [if_neg he]
theorem FO.put {w0 : World} {F G n k : Nat} : ∀ (qs : List PgR) (j : Nat) (wr : World) (fs : List FkR) (f : FkR), FO w0 wr F G n fs → fs[k]? = some f → j + qs.length ≤ 8 → FO w0 (wr.setCells G (k * 18 + j * 2) (pgE.xv qs)) F G n (fs.set k (f.pgs j qs))
  | [], j, wr, fs, f, h, hk, _ => by rw [show fs.set k (f.pgs j []) = fs from set_same hk]; exact h
  | q :: qs, j, wr, fs, f, h, hk, hj => by
    have h1 := h.page (p := q) hk (j := j) (by simp at hj; omega) rfl
    have h2 := FO.put qs (j + 1) _ _ _ h1 (get_set hk) (by simp at hj; omega)
    rw [List.set_set, show k * 18 + (j + 1) * 2 = k * 18 + j * 2 + 1 + 1 by omega] at h2
    exact h2
theorem pgs_8 (f : FkR) : f.pgs 0 (List.replicate 8 pgZ) = ⟨List.replicate 8 pgZ, f.wear, f.bad, rfl⟩ := by
  obtain ⟨q0, q1, q2, q3, q4, q5, q6, q7, hq⟩ := list8 f.h8
  refine FkR.ext' ?_ rfl rfl
  simp [FkR.pgs, FkR.pg, List.replicate, hq]
theorem Tryd.sizePages : (Tryd.prog.info? 94).map (·.size) = some 16 := by kernel_rfl
/-- What erase refuses; the flash behind it. -/
def erC (fs : List FkR) (x : Int) : Int := if btcC fs x = 0 then (if (fs[x.toNat]?).map FkR.wear = some 100000 then 5 else 0) else btcC fs x
def erAt (fs : List FkR) (k : Nat) : List FkR := match fs[k]? with | some f => fs.set k ⟨List.replicate 8 pgZ, f.wear + 1, f.bad, rfl⟩ | none => fs
def erF (fs : List FkR) (x : Int) : List FkR := if erC fs x = 0 then erAt fs x.toNat else fs
def ErA (w0 : World) (F G n : Nat) (fs : List FkR) (x : Int) (e : Ending) (w' : World) : Prop := e = .returned (errV (erC fs x)) ∧ FO w0 w' F G n (erF fs x)
theorem btc_zero {fs : List FkR} {x : Int} (h : btcC fs x = 0) : ∃ (k : Nat) (f : FkR), x = (k : Int) ∧ fs[k]? = some f := by
  unfold btcC at h
  split at h
  · omega
  · obtain ⟨k, rfl⟩ : ∃ k : Nat, x = (k : Int) := ⟨x.toNat, by omega⟩
    exact ⟨k, _, rfl, List.getElem?_eq_getElem (by omega)⟩
set_option maxRecDepth 100000 in
set_option maxHeartbeats 4000000 in
theorem eraseF (F G n : Nat) (fs : List FkR) (x : Int) (w0 w : World) (hn : n ≤ 1048576) (h : FO w0 w F G n fs) (hw : ∀ f ∈ fs, 0 ≤ f.wear ∧ f.wear ≤ 100000) :
    Calls Tryd.prog 43 #[.pointer (some ⟨F, 0, none⟩), .int .i64 x] w (ErA w0 F G n fs x) := by
  have hcall := btcI F G n fs x w0 w hn h
  generalize hGP : ErA w0 F G n fs x = P
  have HGP : Hid _ := hGP
  clear hGP
  by_cases hc : btcC fs x = 0
  · obtain ⟨k, f, rfl, hf⟩ := btc_zero hc
    obtain ⟨hw1, hw2⟩ := hw f (List.mem_of_getElem? hf)
    rw [if_pos hc, hc, errV_zero, Int.toNat_natCast] at hcall
    have c16 : w.cell? ⟨G, k * 18 + 16, none⟩ = some (.int .i64 f.wear) := by
      rw [h.cell hf (by omega)]
      show (pgE.xv f.ps ++ [Value.int .i64 f.wear, Value.bool f.bad])[16]? = _
      rw [List.getElem?_append_right (by rw [xv16]; omega), xv16]
      rfl
    have hee : erC fs (k : Int) = if f.wear = 100000 then 5 else 0 := by unfold erC; rw [if_pos hc]; simp [hf]
    obtain ⟨wear, hwe⟩ : ∃ wear, f.wear = wear := ⟨_, rfl⟩
    rw [hwe] at c16 hee hw1 hw2
    by_cases h5 : wear = 100000
    · subst h5
      have HFO : Hid _ := h
      have HEE : Hid (erC fs (k : Int) = 5) := hee
      clear h hf hc hw hwe hee
      go_enter Tryd.func43, Tryd.ntmps43
      go_wp2_with fail
      refine hcall.mono ?_
      rintro e w1 ⟨rfl, hw⟩
      obtain rfl := hw.symm
      go_wp2
      rw [← HGP.out]
      refine ⟨by rw [HEE.out]; rfl, ?_⟩
      rw [show erF fs (k : Int) = fs by unfold erF; rw [HEE.out]; rfl]
      exact HFO.out
    · rw [if_neg h5] at hee
      have hth : w.there G (k * 18) 16 := fun j hj => by
        obtain ⟨v, hv⟩ := h.is hf (j := j) (by omega)
        rw [hv]
        exact ⟨rfl, h.g.frozen _⟩
      have f6 := FO.put (k := k) (List.replicate 8 pgZ) 0 w fs f h hf (by simp)
      rw [pgs_8, Nat.zero_mul, Nat.add_zero] at f6
      have g6 := f6.one (j := 16) (x := .int .i64 (wear + 1)) (get_set hf) (by omega) (en_wear _ (wear + 1))
      rw [List.set_set] at g6
      have hgs : erF fs (k : Int) = fs.set k (FkR.wearTo ⟨List.replicate 8 pgZ, f.wear, f.bad, rfl⟩ (wear + 1)) := by
        unfold erF erAt
        rw [hee, if_pos rfl, Int.toNat_natCast, hf]
        dsimp only
        rw [hwe]
        rfl
      rw [← hgs] at g6
      have c16' : (w.setCells G (k * 18) (pgE.xv (List.replicate 8 pgZ))).cell? ⟨G, k * 18 + 16, none⟩ = some (.int .i64 wear) := by
        rw [f6.cell (get_set hf) (by omega)]
        show (pgE.xv (List.replicate 8 pgZ) ++ [Value.int .i64 f.wear, Value.bool f.bad])[16]? = _
        rw [hwe]
        rfl
      have r16 := f6.g.frozen (k * 18 + 16)
      have hxx : pgE.xv (List.replicate 8 pgZ) = (#[.bool false, .slice none 0 0, .bool false, .slice none 0 0, .bool false, .slice none 0 0, .bool false, .slice none 0 0, .bool false, .slice none 0 0, .bool false, .slice none 0 0, .bool false, .slice none 0 0, .bool false, .slice none 0 0] : Array Value).toList := rfl
      rw [hxx] at c16' r16 g6
      obtain ⟨Z, hZ⟩ : ∃ Z : Array Value, Z = #[.bool false, .slice none 0 0, .bool false, .slice none 0 0, .bool false, .slice none 0 0, .bool false, .slice none 0 0, .bool false, .slice none 0 0, .bool false, .slice none 0 0, .bool false, .slice none 0 0, .bool false, .slice none 0 0] := ⟨_, rfl⟩
      have hZs : Z.size = 16 := by rw [hZ]; rfl
      have hZ1 : Z.all (·.oneCell') = true := by rw [hZ]; simp [Value.oneCell']
      rw [← hZ] at c16' r16 g6
      have HZ : Hid _ := hZ
      have HTH : Hid (w.there G (k * 18) Z.size) := by rw [hZs]; exact hth
      have HS16 : Hid ((Tryd.prog.info? 94).map (·.size) = some Z.size) := by show _ = _; rw [Tryd.sizePages, hZs]
      have HZ1 : Hid _ := hZ1
      have HG6 : Hid _ := g6
      have HEE : Hid (erC fs (k : Int) = 0) := hee
      have hwr : IntKind.i64.wrap (wear + 1) = wear + 1 := wrap_small _ (by omega) (by omega)
      have h5b : (wear == 100000) = false := by simp [h5]
      obtain ⟨W6, hW6⟩ : ∃ W, w.setCells G (k * 18) Z.toList = W := ⟨_, rfl⟩
      have HW6 : Hid _ := hW6
      rw [hW6] at c16' r16 HG6
      clear h hf hc hw hwe hee hth f6 g6 hgs hxx hZ hZs hZ1 hW6
      go_enter Tryd.func43, Tryd.ntmps43
      go_wp2_with fail
      refine hcall.mono ?_
      rintro e w1 ⟨rfl, hw⟩
      obtain rfl := hw.symm
      go_upto_region 7 with (refine wpList_store_mid rfl 94 (.tmp 25) (.tmp 23) rfl G (k * 18) Z rfl (by rw [HZ.out]; rfl) HTH.out HS16.out HZ1.out ?_; rw [HW6.out])
      go_wp2
      rw [← HGP.out]
      exact ⟨by rw [HEE.out]; rfl, HG6.out⟩
  · rw [if_neg hc, errV_some hc] at hcall
    have hee : erC fs x = btcC fs x := by unfold erC; rw [if_neg hc]
    have hgs : erF fs x = fs := by unfold erF; rw [hee, if_neg hc]
    have HFO : Hid _ := h
    have HEE : Hid (erC fs x = btcC fs x ∧ erF fs x = fs ∧ ¬ btcC fs x = 0) := ⟨hee, hgs, hc⟩
    clear h hc hw hee hgs
    go_enter Tryd.func43, Tryd.ntmps43
    go_wp2_with fail
    refine hcall.mono ?_
    rintro e w1 ⟨rfl, hw⟩
    obtain rfl := hw.symm
    go_wp2
    rw [← HGP.out]
    obtain ⟨e1, e2, e3⟩ := HEE.out
    exact ⟨by rw [e1, errV_some e3]; rfl, by rw [e2]; exact HFO.out⟩
end

section
open Go.RowKit
set_option maxRecDepth 100000 in
set_option maxHeartbeats 8000000 in
theorem copyChI (a : Option Addr) (n cap : Nat) (bs : List BkR) (w : World) (ht : CR w a n bs) :
    Calls Tryd.prog 61 #[.agg #[.slice a n cap]] w (ChA w (bs.map BkR.D)) := by
  have hnn := ht.n
  have B0 : Below w.heap.size w ((w.alloc (.cells #[.slice a n cap] 29)).alloc (.cells #[.slice none 0 0] 29)) := ((Below.refl _ w).alloc (Nat.le_refl _) _).alloc (by simp) _
  have z0 := (Blk.new w 29 #[.slice a n cap]).alloc (.cells #[.slice none 0 0] 29)
  have z1 := Blk.new (w.alloc (.cells #[.slice a n cap] 29)) 29 #[.slice none 0 0]
  simp only [World.size_alloc] at z1
  have hws : ((w.alloc (.cells #[.slice a n cap] 29)).alloc (.cells #[.slice none 0 0] 29)).heap.size = w.heap.size + 2 := by simp
  obtain ⟨H, hH⟩ : ∃ H, w.heap.size = H := ⟨_, rfl⟩
  rw [hH] at z0 z1 hws
  go_enter Tryd.func61, Tryd.ntmps61
  go_upto_region 1 with fail
  obtain ⟨W0, hW0⟩ : ∃ W, (w.alloc (.cells #[.slice a n cap] 29)).alloc (.cells #[.slice none 0 0] 29) = W := ⟨_, rfl⟩
  rw [hW0] at B0 z0 z1 hws ⊢
  clear hW0
  have cc : CC W0 (W0.alloc (.cells #[.slice none 0 0] 29)) W0.heap.size (.slice none 0 0) [] [] := CC.new ((Below.refl _ _).alloc (Nat.le_refl _) _) (Blk.new W0 29 #[.slice none 0 0]) (Nat.le_refl _)
  have HW : Hid _ := hws
  have HH : Hid (w.heap.size = H) := hH
  have HT : Hid (CR W0 a n bs) := ht.keep B0
  have HB0 : Hid (Below H w W0) := by rw [← hH]; exact B0
  have HZ0 : Hid (Blk W0 H 29 #[.slice a n cap]) := z0
  have HZ1 : Hid (Blk W0 (H + 1) 29 #[.slice none 0 0]) := z1
  have hln : Hid (bs.length = n) := ht.len
  clear ht B0 z0 z1 hH
  rw [hws] at cc
  have y0 := (Blk.keep HZ0.out cc.bel).cell 0
  simp at y0
  go_upto_region 3 with fail
  try rw [hws]
  clear hws y0
  go_loopw [10] (fun i wr => ∃ (k : Nat) (v : Value) (us : List BkR), k ≤ n ∧ i = .int .i64 k ∧ us.length = k ∧ Hid (CC W0 wr (H + 2) v us ((bs.take k).map BkR.D))) (fun i _ => n - (intOf i).toNat)
  case atStart => exact ⟨0, .slice none 0 0, [], by omega, rfl, rfl, cc⟩
  case round =>
    obtain ⟨k, v, us, hk, rfl, hus, hcc⟩ := hrel
    clear cc
    by_cases hkn : k < n
    · have hki : (k : Int) < (n : Int) := by omega
      obtain ⟨b, off, r, rfl, hlt, hrk, x3, hrp, htp⟩ := (HT.out.keep hcc.out.bel).some hkn
      obtain ⟨c0, c1, c2⟩ := x3
      have hbD : Hid ((bs.take (k + 1)).map BkR.D = (bs.take k).map BkR.D ++ [⟨r.ps.map PgR.D, r.wear, r.bad⟩]) := by show _ = _; rw [List.take_add_one, hrk]; simp [BkR.D]
      obtain ⟨ra, rc, rp, wear, bad⟩ := r
      dsimp only at c0 c1 c2 hrp htp hbD
      obtain ⟨n1, hn1⟩ : ∃ n1, rp.length = n1 := ⟨_, rfl⟩
      rw [hn1] at c0
      have HN1 : Hid (rp.length = n1) := hn1
      have bE : Below wr.heap.size wr (wr.alloc (.cells #[.slice ra n1 rc, .int .i64 wear, .bool bad] 50)) := (Below.refl _ wr).alloc (Nat.le_refl _) _
      have zE := Blk.new wr 50 #[.slice ra n1 rc, .int .i64 wear, .bool bad]
      have cc8 := hcc.out.keep bE
      have hrp8 := hrp.keep bE
      go_upto_region 5 with fail
      obtain ⟨W8, hW8⟩ : ∃ W, wr.alloc (.cells #[.slice ra n1 rc, .int .i64 wear, .bool bad] 50) = W := ⟨_, rfl⟩
      rw [hW8] at zE cc8 hrp8 bE ⊢
      clear hW8 c0 c1 c2 hrp
      obtain ⟨E, hE⟩ : ∃ E, wr.heap.size = E := ⟨_, rfl⟩
      rw [hE] at zE ⊢
      have hcells : Hid (∀ W : World, Below W8.heap.size W8 W → W.cell? ⟨E, 0, none⟩ = some (.slice ra n1 rc) ∧ W.cell? ⟨E, 1, none⟩ = some (.int .i64 wear) ∧ W.cell? ⟨E, 2, none⟩ = some (.bool bad)) := fun W hW => ⟨(Blk.keep zE hW).cell 0, (Blk.keep zE hW).cell 1, (Blk.keep zE hW).cell 2⟩
      have hXE : Hid (∀ g, v.ownBlock = some g → g ≠ E) := fun g hg => by have := hcc.out.row.lt hg; omega
      have ccd : CC W0 W8.drew (H + 2) v us ((bs.take k).map BkR.D) := cc8.keep (Below.refl _ _).drew
      have x0 := ccd.x.cell 0
      simp at x0
      obtain ⟨y1, y2, y3⟩ := hcells.out W8.drew (Below.refl _ _).drew
      have hcall := copyBlkI ra n1 rc wear bad rp W8.drew hn1 htp (hrp8.keep (Below.refl _ _).drew)
      have HCC : Hid (CC W0 W8.drew (H + 2) v us ((bs.take k).map BkR.D)) := ccd
      have HZE : Hid (Blk W8.drew E 50 #[.slice ra n1 rc, .int .i64 wear, .bool bad]) := Blk.keep zE (Below.refl _ _).drew
      clear hrk hrp8 htp hn1 hcc hlt ccd cc8 zE bE hE
      refine wp_region_noPanic ?_
      refine wp_region_last (fun W : World => W.cell? ⟨H + 2, 0, none⟩ = some v ∧ W.cell? ⟨E, 0, none⟩ = some (.slice ra n1 rc) ∧ W.cell? ⟨E, 1, none⟩ = some (.int .i64 wear) ∧ W.cell? ⟨E, 2, none⟩ = some (.bool bad)) 7 (by kernel_rfl) (by kernel_rfl) (by go_keep) 7 (by kernel_rfl) (fun hS => ?_)
      refine wpAnyH_take (i := 0) (v := ?gv1) rfl (by kernel_rfl) (by kernel_rfl) (by kernel_rfl) (fun _ _ _ h => h) (Or.inl ⟨by kernel_rfl, ?gy1⟩) (by assumption) ?gr1
      case gy1 => (intro w' hSw; (try dsimp only at hSw); go_simp; (try with_reducible rfl))
      try simp only [Act.put, List.setIfInBounds_toArray, List.set_cons_zero, List.set_cons_succ, List.getElem_toArray, List.getElem_cons_zero]
      refine wpAnyH_take (i := 1) (v := ?gv2) rfl (by kernel_rfl) (by kernel_rfl) (by kernel_rfl) (fun _ _ _ h => h) (Or.inl ⟨by kernel_rfl, ?gy2⟩) (by assumption) ?gr2
      case gy2 => (intro w' hSw; (try dsimp only at hSw); go_simp; (try with_reducible rfl))
      try simp only [Act.put, List.setIfInBounds_toArray, List.set_cons_zero, List.set_cons_succ, List.getElem_toArray, List.getElem_cons_succ, List.getElem_cons_zero]
      refine wpAnyH_take (i := 2) (v := ?gv3) rfl (by kernel_rfl) (by kernel_rfl) (by kernel_rfl) (fun _ _ _ h => h) (Or.inl ⟨by kernel_rfl, ?gy3⟩) (by assumption) ?gr3
      case gy3 => (intro w' hSw; (try dsimp only at hSw); go_simp; (try with_reducible rfl))
      try simp only [Act.put, List.setIfInBounds_toArray, List.set_cons_zero, List.set_cons_succ, List.getElem_toArray, List.getElem_cons_succ, List.getElem_cons_zero]
      refine wpAnyH_ready (rs := [3]) (by kernel_rfl) (by simp) ?_
      refine AllReadyH.cons rfl (fun K hK => ?_) AllReadyH.nil
      go_simp
      (with_reducible refine hcall.mono ?_)
      rintro e W9 ⟨a1, c1, qs, rfl, hnp, b9⟩
      have cc9 := HCC.out.keep b9
      have HX9 : Hid (W9.cell? ⟨H + 2, 0, none⟩ = some v) := (by have := cc9.x.cell 0; simp at this; exact this)
      have hrow := cc9.row
      rw [hus] at hrow
      have hql : qs.length = n1 := (by rw [hnp.len]; simp [HN1.out])
      have happ2 := fun ty => app_block W9 v us k hus (by omega) hrow ⟨a1, c1, qs, wear, bad⟩ ty n1 hql
      have HAP2 : Hid _ := happ2
      have HC9 : Hid (CC W0 W9 (H + 2) v us ((bs.take k).map BkR.D)) := cc9
      have HZ9 : Hid (Blk W9 E 50 #[.slice ra n1 rc, .int .i64 wear, .bool bad]) := Blk.keep HZE.out b9
      have HNP : Hid _ := And.intro hnp b9
      have HQL : Hid (qs.length = n1) := hql
      clear happ2 hrow cc9 hnp b9 hql
      clear hS
      try dsimp only
      refine Shut.out hK _ _ (⟨HX9.out, HZ9.out.cell 0, HZ9.out.cell 1, HZ9.out.cell 2⟩) (fun hS => ?_)
      try simp only [Act.put, List.setIfInBounds_toArray, List.set_cons_zero, List.set_cons_succ, List.getElem_toArray, List.getElem_cons_succ, List.getElem_cons_zero]
      refine wpAnyH_ready (rs := [4]) (by kernel_rfl) (by simp) ?_
      refine AllReadyH.cons rfl (fun K hK => ?_) AllReadyH.nil
      go_simp
      have ccB := HC9.out.keep ((Below.refl _ W9).alloc (Nat.le_refl _) (.cells #[.slice a1 n1 c1, .int .i64 wear, .bool bad] 50))
      have HXB : Hid ((W9.alloc (.cells #[.slice a1 n1 c1, .int .i64 wear, .bool bad] 50)).cell? ⟨H + 2, 0, none⟩ = some v) := (by have := ccB.x.cell 0; simp at this; exact this)
      have HBB : Hid (Below W0.heap.size W0 (W9.alloc (.cells #[.slice a1 n1 c1, .int .i64 wear, .bool bad] 50))) := ccB.bel
      have HxB : Hid (Blk (W9.alloc (.cells #[.slice a1 n1 c1, .int .i64 wear, .bool bad] 50)) (H + 2) 29 #[v]) := ccB.x
      have HZB : Hid (Blk (W9.alloc (.cells #[.slice a1 n1 c1, .int .i64 wear, .bool bad] 50)) E 50 #[.slice ra n1 rc, .int .i64 wear, .bool bad]) := Blk.alloc HZ9.out _
      clear ccB
      clear hS
      try dsimp only
      refine Shut.out hK _ _ (⟨HXB.out, HZB.out.cell 0, HZB.out.cell 1, HZB.out.cell 2⟩) (fun hS => ?_)
      try simp only [Act.put, List.setIfInBounds_toArray, List.set_cons_zero, List.set_cons_succ, List.getElem_toArray, List.getElem_cons_succ, List.getElem_cons_zero]
      refine wpAnyH_ready (rs := [5]) (by kernel_rfl) (by simp) ?_
      refine AllReadyH.cons rfl (fun K hK => ?_) AllReadyH.nil
      refine step_appAny (W9.alloc (.cells #[.slice a1 n1 c1, .int .i64 wear, .bool bad] 50)) rfl (.tmp 15) (.tmp 18) 27 rfl v (.slice (some ⟨W9.heap.size, 0, none⟩) 1 1) _ rfl rfl HAP2.out ?_
      intro v2 W10 hap2
      obtain ⟨a2, c2, rfl, _⟩ := OwnE.rd (rd := fun _ => True) hap2.own (fun _ _ => trivial)
      have hxg := blk_gr HxB.out hap2.gr (fun e => (HC9.out.vn (H + 2) e).2.1 rfl)
      have g0 := hxg.cell 0
      have gf := hxg.frozen 0
      simp at g0
      have HZT : Hid (Blk W10 E 50 #[.slice ra n1 rc, .int .i64 wear, .bool bad]) := blk_gr HZB.out hap2.gr (fun e => hXE.out _ e rfl)
      clear hS
      try dsimp only
      refine Shut.out hK _ _ (⟨g0, HZT.out.cell 0, HZT.out.cell 1, HZT.out.cell 2⟩) (fun hS => ?_)
      try simp only [Act.put, List.setIfInBounds_toArray, List.set_cons_zero, List.set_cons_succ, List.getElem_toArray, List.getElem_cons_succ, List.getElem_cons_zero]
      refine wpAnyH_take (i := 6) (v := ?gv4) rfl (by kernel_rfl) (by kernel_rfl) (by kernel_rfl) (fun _ _ _ h => h) (Or.inl ⟨by kernel_rfl, ?gy4⟩) (by assumption) ?gr4
      case gy4 => (intro w' hSw; (try dsimp only at hSw); go_simp; (try with_reducible rfl))
      try simp only [Act.put, List.setIfInBounds_toArray, List.set_cons_zero, List.set_cons_succ, List.getElem_toArray, List.getElem_cons_succ, List.getElem_cons_zero]
      refine wpAnyH_done (by kernel_rfl) ?_ _
      refine wpOp_last rfl (fun K hK => ?_)
      clear hS
      go_simp
      refine Shut.out hK _ _ (NoPanic.normal ?_)
      have ccn : CC W0 (W10.setCell ⟨H + 2, 0, none⟩ (.slice a2 (k + 1) c2)) (H + 2) (.slice a2 (k + 1) c2) (us ++ [⟨a1, c1, qs, wear, bad⟩]) ((bs.take k).map BkR.D ++ [⟨rp.map PgR.D, wear, bad⟩]) := CC.step HCC.out hus HQL.out HNP.out.2 HNP.out.1 hap2 (by simp [hus])
      rw [← hbD.out] at ccn
      have CCN : Hid _ := ccn
      have hul : (us ++ [⟨a1, c1, qs, wear, bad⟩] : List BkR).length = k + 1 := by simp [hus]
      clear ccn hap2 hxg g0 gf x0 y1 y2 y3
      go_wp2
      go_roundw
      case rel => exact ⟨k + 1, _, _, by omega, by go_num, hul, CCN⟩
      case measure => simp [intOf]; omega
    · have hki : ¬ (k : Int) < (n : Int) := by omega
      obtain rfl : k = n := by omega
      have hco := hcc.out
      rw [List.take_of_length_le (by rw [hln.out]; omega)] at hco
      obtain ⟨va, vc, rfl, _⟩ := OwnE.rd (rd := fun _ => True) hco.row (fun _ _ => trivial)
      rw [hus] at hco
      have x0 := hco.x.cell 0
      have zr := Blk.keep HZ1.out hco.bel
      have r0 := zr.cell 0
      have f0 := zr.frozen 0
      have zf := zr.set 0 (.slice va k vc)
      have d0 := zf.cell 0
      simp at x0 r0 d0
      have HC : Hid _ := hco
      clear hco zr zf hcc
      go_wp2
      refine bodyPost_ret (v := .agg #[.slice va k vc]) (by simp [results, Tryd.f61, go_sem, d0]) rfl ?_
      have hc := HC.out
      have hw := HW.out
      have hH := HH.out
      have hbs := HB0.out
      have bel : Below w.heap.size w wr := by rw [hH]; exact hbs.trans (hc.bel.mono (by omega))
      exact ⟨va, k, vc, us, rfl, NewBs.wider (B := W0.heap.size) (NewBs.set_below (B := W0.heap.size) (j := H + 1) (hc.done hus) (by omega)) (by omega), hus, bel.setCell (p := ⟨H + 1, 0, none⟩) (by simp only; omega) _⟩
end
end Go.Proofs.YtghfopafmjkpdaaDoor
