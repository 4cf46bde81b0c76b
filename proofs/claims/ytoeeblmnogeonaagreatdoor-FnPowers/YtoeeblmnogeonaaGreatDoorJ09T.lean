/-
  Joined: ChEn, ChCi, MarkGI, Fresh.
-/
import Derived.Test.YtoeeblmnogeonaaGreatDoorJ08T
namespace Go.Proofs.YtoeeblmnogeonaaGreatDoor
section
open Go.RowKit
/-- What is done to a flash's row alone. -/
def FOA (w0 w : World) (F G n : Nat) (fs : List FkR) (e : Ending) (w' : World) : Prop := e = .returned (.tuple #[]) ∧ FO w0 w' F G n fs ∧ Sv [G] w w'
end

section
open Go.RowKit
set_option maxRecDepth 100000 in
set_option maxHeartbeats 8000000 in
theorem copyChI (a : Option Addr) (n cap : Nat) (bs : List BkR) (w : World) (ht : CR w a n bs) :
    Calls Tryz.prog 117 #[.agg #[.slice a n cap]] w (ChA w (bs.map BkR.D)) := by
  have hnn := ht.n
  have B0 : Below w.heap.size w ((w.alloc (.cells #[.slice a n cap] 26)).alloc (.cells #[.slice none 0 0] 26)) := ((Below.refl _ w).alloc (Nat.le_refl _) _).alloc (by simp) _
  have z0 := (Blk.new w 26 #[.slice a n cap]).alloc (.cells #[.slice none 0 0] 26)
  have z1 := Blk.new (w.alloc (.cells #[.slice a n cap] 26)) 26 #[.slice none 0 0]
  simp only [World.size_alloc] at z1
  have hws : ((w.alloc (.cells #[.slice a n cap] 26)).alloc (.cells #[.slice none 0 0] 26)).heap.size = w.heap.size + 2 := by simp
  obtain ⟨H, hH⟩ : ∃ H, w.heap.size = H := ⟨_, rfl⟩
  rw [hH] at z0 z1 hws
  go_enter Tryz.func117, Tryz.ntmps117
  go_upto_region 1 with fail
  obtain ⟨W0, hW0⟩ : ∃ W, (w.alloc (.cells #[.slice a n cap] 26)).alloc (.cells #[.slice none 0 0] 26) = W := ⟨_, rfl⟩
  rw [hW0] at B0 z0 z1 hws ⊢
  clear hW0
  have cc : CC W0 (W0.alloc (.cells #[.slice none 0 0] 26)) W0.heap.size (.slice none 0 0) [] [] := CC.new ((Below.refl _ _).alloc (Nat.le_refl _) _) (Blk.new W0 26 #[.slice none 0 0]) (Nat.le_refl _)
  have HW : Hid _ := hws
  have HH : Hid (w.heap.size = H) := hH
  have HT : Hid (CR W0 a n bs) := ht.keep B0
  have HB0 : Hid (Below H w W0) := by rw [← hH]; exact B0
  have HZ0 : Hid (Blk W0 H 26 #[.slice a n cap]) := z0
  have HZ1 : Hid (Blk W0 (H + 1) 26 #[.slice none 0 0]) := z1
  have hln : Hid (bs.length = n) := ht.len
  clear ht B0 z0 z1 hH
  rw [hws] at cc
  have y0 := (Blk.keep HZ0.out cc.bel).cell 0
  simp at y0
  go_upto_region 3 with fail
  try rw [hws]
  clear hws y0
  go_loopw [10] (fun i wr => ∃ (k : Nat) (v : Value) (us : List BkR), k ≤ n ∧ i = .int .i64 k ∧ us.length = k ∧ Hid (CC W0 wr (H + 2) v us ((bs.take k).map BkR.D))) (fun i _ => n - (intOf i).toNat)
  case atStart => exact ⟨0, .slice none 0 0, [], by omega, rfl, rfl, cc⟩
  case round =>
    obtain ⟨k, v, us, hk, rfl, hus, hcc⟩ := hrel
    clear cc
    by_cases hkn : k < n
    · have hki : (k : Int) < (n : Int) := by omega
      obtain ⟨b, off, r, rfl, hlt, hrk, x3, hrp, htp⟩ := (HT.out.keep hcc.out.bel).some hkn
      obtain ⟨c0, c1, c2⟩ := x3
      have hbD : Hid ((bs.take (k + 1)).map BkR.D = (bs.take k).map BkR.D ++ [⟨r.ps.map PgR.D, r.wear, r.bad⟩]) := by show _ = _; rw [List.take_add_one, hrk]; simp [BkR.D]
      obtain ⟨ra, rc, rp, wear, bad⟩ := r
      dsimp only at c0 c1 c2 hrp htp hbD
      obtain ⟨n1, hn1⟩ : ∃ n1, rp.length = n1 := ⟨_, rfl⟩
      rw [hn1] at c0
      have HN1 : Hid (rp.length = n1) := hn1
      have bE : Below wr.heap.size wr (wr.alloc (.cells #[.slice ra n1 rc, .int .i64 wear, .bool bad] 42)) := (Below.refl _ wr).alloc (Nat.le_refl _) _
      have zE := Blk.new wr 42 #[.slice ra n1 rc, .int .i64 wear, .bool bad]
      have cc8 := hcc.out.keep bE
      have hrp8 := hrp.keep bE
      go_upto_region 5 with fail
      obtain ⟨W8, hW8⟩ : ∃ W, wr.alloc (.cells #[.slice ra n1 rc, .int .i64 wear, .bool bad] 42) = W := ⟨_, rfl⟩
      rw [hW8] at zE cc8 hrp8 bE ⊢
      clear hW8 c0 c1 c2 hrp
      obtain ⟨E, hE⟩ : ∃ E, wr.heap.size = E := ⟨_, rfl⟩
      rw [hE] at zE ⊢
      have hcells : Hid (∀ W : World, Below W8.heap.size W8 W → W.cell? ⟨E, 0, none⟩ = some (.slice ra n1 rc) ∧ W.cell? ⟨E, 1, none⟩ = some (.int .i64 wear) ∧ W.cell? ⟨E, 2, none⟩ = some (.bool bad)) := fun W hW => ⟨(Blk.keep zE hW).cell 0, (Blk.keep zE hW).cell 1, (Blk.keep zE hW).cell 2⟩
      have hXE : Hid (∀ g, v.ownBlock = some g → g ≠ E) := fun g hg => by have := hcc.out.row.lt hg; omega
      have ccd : CC W0 W8.drew (H + 2) v us ((bs.take k).map BkR.D) := cc8.keep (Below.refl _ _).drew
      have x0 := ccd.x.cell 0
      simp at x0
      obtain ⟨y1, y2, y3⟩ := hcells.out W8.drew (Below.refl _ _).drew
      have hcall := copyBlkI ra n1 rc wear bad rp W8.drew hn1 htp (hrp8.keep (Below.refl _ _).drew)
      have HCC : Hid (CC W0 W8.drew (H + 2) v us ((bs.take k).map BkR.D)) := ccd
      have HZE : Hid (Blk W8.drew E 42 #[.slice ra n1 rc, .int .i64 wear, .bool bad]) := Blk.keep zE (Below.refl _ _).drew
      clear hrk hrp8 htp hn1 hcc hlt ccd cc8 zE bE hE
      refine wp_region_noPanic ?_
      refine wp_region_last (fun W : World => W.cell? ⟨H + 2, 0, none⟩ = some v ∧ W.cell? ⟨E, 0, none⟩ = some (.slice ra n1 rc) ∧ W.cell? ⟨E, 1, none⟩ = some (.int .i64 wear) ∧ W.cell? ⟨E, 2, none⟩ = some (.bool bad)) 7 (by kernel_rfl) (by kernel_rfl) (by go_keep) 7 (by kernel_rfl) (fun hS => ?_)
      refine wpAnyH_take (i := 0) (v := ?gv1) rfl (by kernel_rfl) (by kernel_rfl) (by kernel_rfl) (fun _ _ _ h => h) (Or.inl ⟨by kernel_rfl, ?gy1⟩) (by assumption) ?gr1
      case gy1 => (intro w' hSw; (try dsimp only at hSw); go_simp; (try with_reducible rfl))
      try simp only [Act.put, List.setIfInBounds_toArray, List.set_cons_zero, List.set_cons_succ, List.getElem_toArray, List.getElem_cons_zero]
      refine wpAnyH_take (i := 1) (v := ?gv2) rfl (by kernel_rfl) (by kernel_rfl) (by kernel_rfl) (fun _ _ _ h => h) (Or.inl ⟨by kernel_rfl, ?gy2⟩) (by assumption) ?gr2
      case gy2 => (intro w' hSw; (try dsimp only at hSw); go_simp; (try with_reducible rfl))
      try simp only [Act.put, List.setIfInBounds_toArray, List.set_cons_zero, List.set_cons_succ, List.getElem_toArray, List.getElem_cons_succ, List.getElem_cons_zero]
      refine wpAnyH_take (i := 2) (v := ?gv3) rfl (by kernel_rfl) (by kernel_rfl) (by kernel_rfl) (fun _ _ _ h => h) (Or.inl ⟨by kernel_rfl, ?gy3⟩) (by assumption) ?gr3
      case gy3 => (intro w' hSw; (try dsimp only at hSw); go_simp; (try with_reducible rfl))
      try simp only [Act.put, List.setIfInBounds_toArray, List.set_cons_zero, List.set_cons_succ, List.getElem_toArray, List.getElem_cons_succ, List.getElem_cons_zero]
      refine wpAnyH_ready (rs := [3]) (by kernel_rfl) (by simp) ?_
      refine AllReadyH.cons rfl (fun K hK => ?_) AllReadyH.nil
      go_simp
      (with_reducible refine hcall.mono ?_)
      rintro e W9 ⟨a1, c1, qs, rfl, hnp, b9⟩
      have cc9 := HCC.out.keep b9
      have HX9 : Hid (W9.cell? ⟨H + 2, 0, none⟩ = some v) := (by have := cc9.x.cell 0; simp at this; exact this)
      have hrow := cc9.row
      rw [hus] at hrow
      have hql : qs.length = n1 := (by rw [hnp.len]; simp [HN1.out])
      have happ2 := fun ty => app_block W9 v us k hus (by omega) hrow ⟨a1, c1, qs, wear, bad⟩ ty n1 hql
      have HAP2 : Hid _ := happ2
      have HC9 : Hid (CC W0 W9 (H + 2) v us ((bs.take k).map BkR.D)) := cc9
      have HZ9 : Hid (Blk W9 E 42 #[.slice ra n1 rc, .int .i64 wear, .bool bad]) := Blk.keep HZE.out b9
      have HNP : Hid _ := And.intro hnp b9
      have HQL : Hid (qs.length = n1) := hql
      clear happ2 hrow cc9 hnp b9 hql
      clear hS
      try dsimp only
      refine Shut.out hK _ _ (⟨HX9.out, HZ9.out.cell 0, HZ9.out.cell 1, HZ9.out.cell 2⟩) (fun hS => ?_)
      try simp only [Act.put, List.setIfInBounds_toArray, List.set_cons_zero, List.set_cons_succ, List.getElem_toArray, List.getElem_cons_succ, List.getElem_cons_zero]
      refine wpAnyH_ready (rs := [4]) (by kernel_rfl) (by simp) ?_
      refine AllReadyH.cons rfl (fun K hK => ?_) AllReadyH.nil
      go_simp
      have ccB := HC9.out.keep ((Below.refl _ W9).alloc (Nat.le_refl _) (.cells #[.slice a1 n1 c1, .int .i64 wear, .bool bad] 42))
      have HXB : Hid ((W9.alloc (.cells #[.slice a1 n1 c1, .int .i64 wear, .bool bad] 42)).cell? ⟨H + 2, 0, none⟩ = some v) := (by have := ccB.x.cell 0; simp at this; exact this)
      have HBB : Hid (Below W0.heap.size W0 (W9.alloc (.cells #[.slice a1 n1 c1, .int .i64 wear, .bool bad] 42))) := ccB.bel
      have HxB : Hid (Blk (W9.alloc (.cells #[.slice a1 n1 c1, .int .i64 wear, .bool bad] 42)) (H + 2) 26 #[v]) := ccB.x
      have HZB : Hid (Blk (W9.alloc (.cells #[.slice a1 n1 c1, .int .i64 wear, .bool bad] 42)) E 42 #[.slice ra n1 rc, .int .i64 wear, .bool bad]) := Blk.alloc HZ9.out _
      clear ccB
      clear hS
      try dsimp only
      refine Shut.out hK _ _ (⟨HXB.out, HZB.out.cell 0, HZB.out.cell 1, HZB.out.cell 2⟩) (fun hS => ?_)
      try simp only [Act.put, List.setIfInBounds_toArray, List.set_cons_zero, List.set_cons_succ, List.getElem_toArray, List.getElem_cons_succ, List.getElem_cons_zero]
      refine wpAnyH_ready (rs := [5]) (by kernel_rfl) (by simp) ?_
      refine AllReadyH.cons rfl (fun K hK => ?_) AllReadyH.nil
      refine step_appAny (W9.alloc (.cells #[.slice a1 n1 c1, .int .i64 wear, .bool bad] 42)) rfl (.tmp 15) (.tmp 18) 24 rfl v (.slice (some ⟨W9.heap.size, 0, none⟩) 1 1) _ rfl rfl HAP2.out ?_
      intro v2 W10 hap2
      obtain ⟨a2, c2, rfl, _⟩ := OwnE.rd (rd := fun _ => True) hap2.own (fun _ _ => trivial)
      have hxg := blk_gr HxB.out hap2.gr (fun e => (HC9.out.vn (H + 2) e).2.1 rfl)
      have g0 := hxg.cell 0
      have gf := hxg.frozen 0
      simp at g0
      have HZT : Hid (Blk W10 E 42 #[.slice ra n1 rc, .int .i64 wear, .bool bad]) := blk_gr HZB.out hap2.gr (fun e => hXE.out _ e rfl)
      clear hS
      try dsimp only
      refine Shut.out hK _ _ (⟨g0, HZT.out.cell 0, HZT.out.cell 1, HZT.out.cell 2⟩) (fun hS => ?_)
      try simp only [Act.put, List.setIfInBounds_toArray, List.set_cons_zero, List.set_cons_succ, List.getElem_toArray, List.getElem_cons_succ, List.getElem_cons_zero]
      refine wpAnyH_take (i := 6) (v := ?gv4) rfl (by kernel_rfl) (by kernel_rfl) (by kernel_rfl) (fun _ _ _ h => h) (Or.inl ⟨by kernel_rfl, ?gy4⟩) (by assumption) ?gr4
      case gy4 => (intro w' hSw; (try dsimp only at hSw); go_simp; (try with_reducible rfl))
      try simp only [Act.put, List.setIfInBounds_toArray, List.set_cons_zero, List.set_cons_succ, List.getElem_toArray, List.getElem_cons_succ, List.getElem_cons_zero]
      refine wpAnyH_done (by kernel_rfl) ?_ _
      refine wpOp_last rfl (fun K hK => ?_)
      clear hS
      go_simp
      refine Shut.out hK _ _ (NoPanic.normal ?_)
      have ccn : CC W0 (W10.setCell ⟨H + 2, 0, none⟩ (.slice a2 (k + 1) c2)) (H + 2) (.slice a2 (k + 1) c2) (us ++ [⟨a1, c1, qs, wear, bad⟩]) ((bs.take k).map BkR.D ++ [⟨rp.map PgR.D, wear, bad⟩]) := CC.step HCC.out hus HQL.out HNP.out.2 HNP.out.1 hap2 (by simp [hus])
      rw [← hbD.out] at ccn
      have CCN : Hid _ := ccn
      have hul : (us ++ [⟨a1, c1, qs, wear, bad⟩] : List BkR).length = k + 1 := by simp [hus]
      clear ccn hap2 hxg g0 gf x0 y1 y2 y3
      go_wp2
      go_roundw
      case rel => exact ⟨k + 1, _, _, by omega, by go_num, hul, CCN⟩
      case measure => simp [intOf]; omega
    · have hki : ¬ (k : Int) < (n : Int) := by omega
      obtain rfl : k = n := by omega
      have hco := hcc.out
      rw [List.take_of_length_le (by rw [hln.out]; omega)] at hco
      obtain ⟨va, vc, rfl, _⟩ := OwnE.rd (rd := fun _ => True) hco.row (fun _ _ => trivial)
      rw [hus] at hco
      have x0 := hco.x.cell 0
      have zr := Blk.keep HZ1.out hco.bel
      have r0 := zr.cell 0
      have f0 := zr.frozen 0
      have zf := zr.set 0 (.slice va k vc)
      have d0 := zf.cell 0
      simp at x0 r0 d0
      have HC : Hid _ := hco
      clear hco zr zf hcc
      go_wp2
      refine bodyPost_ret (v := .agg #[.slice va k vc]) (by simp [results, Tryz.f117, go_sem, d0]) rfl ?_
      have hc := HC.out
      have hw := HW.out
      have hH := HH.out
      have hbs := HB0.out
      have bel : Below w.heap.size w wr := by rw [hH]; exact hbs.trans (hc.bel.mono (by omega))
      exact ⟨va, k, vc, us, rfl, NewBs.wider (B := W0.heap.size) (NewBs.set_below (B := W0.heap.size) (j := H + 1) (hc.done hus) (by omega)) (by omega), hus, bel.setCell (p := ⟨H + 1, 0, none⟩) (by simp only; omega) _⟩
end

section
open Go.RowKit
/-- All blocks outside the interval are as they were. -/
structure Out (B T : Nat) (w w' : World) : Prop where
  os : w'.os = w.os
  tape : w'.tape = w.tape
  output : w'.output = w.output
  size : w.heap.size ≤ w'.heap.size
  block : ∀ k, k < w.heap.size → (k < B ∨ T ≤ k) → w'.heap[k]? = w.heap[k]?
theorem Out.refl (B T : Nat) (w : World) : Out B T w w := ⟨rfl, rfl, rfl, Nat.le_refl _, fun _ _ _ => rfl⟩
theorem Out.trans {B T : Nat} {a b c : World} (h : Out B T a b) (k : Out B T b c) : Out B T a c :=
  ⟨k.os.trans h.os, k.tape.trans h.tape, k.output.trans h.output, Nat.le_trans h.size k.size, fun i hi ho => (k.block i (Nat.lt_of_lt_of_le hi h.size) ho).trans (h.block i hi ho)⟩
theorem Out.wider {B T B' T' : Nat} {a b : World} (h : Out B T a b) (h1 : B' ≤ B) (h2 : T ≤ T') : Out B' T' a b :=
  ⟨h.os, h.tape, h.output, h.size, fun i hi ho => h.block i hi (by omega)⟩
theorem Below.out {a b : World} (h : Below a.heap.size a b) (B T : Nat) : Out B T a b := ⟨h.os, h.tape, h.output, h.size, fun k hk _ => h.block k hk⟩
theorem Out.gr {B T : Nat} {a b : World} {r : Option Nat} (h : a.grownBy b r) (hr : ∀ g, r = some g → B ≤ g ∧ g < T) : Out B T a b :=
  ⟨h.os, h.tape, h.output, h.size, fun k hk ho => h.block k hk (fun e => by have := hr k e.symm; omega)⟩
end

section
open Go.RowKit
theorem empty_row (W : World) (B : Nat) (e : TypeId) (s : Nat) (hB : B ≤ W.heap.size) : (W.alloc (.cells #[] e)).ownsRow B e s (.slice (some ⟨W.heap.size, 0, none⟩) 0 0) 0 [] :=
  ⟨by simp, .inr ⟨W.heap.size, 0, #[], rfl, hB, heap_alloc_new W _, Nat.le_refl _, Nat.zero_le _, by simp, by simp⟩⟩
end
end Go.Proofs.YtoeeblmnogeonaaGreatDoor
