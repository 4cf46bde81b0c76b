/-
  Joined: ChPi, ChPn.
-/
import Derived.Test.YtkhgafmhbibikaaDoorJ17U
namespace Go.Proofs.YtkhgafmhbibikaaDoor
section
open Go.RowKit
theorem FO.rdPs {w0 w : World} {F G n k : Nat} {fs : List FkR} {f : FkR} (h : FO w0 w F G n fs) (hf : fs[k]? = some f) (hr : ∀ p ∈ f.ps, Rd w p.a p.zs) : RdPs w (some ⟨G, k * 18, none⟩) f.ps := by
  refine .inr ⟨G, k * 18, rfl, fun i p hi => ⟨fun j hj => ?_, hr p (List.mem_of_getElem? hi)⟩⟩
  have hj2 : j < 2 := hj
  have hi8 : i < 8 := by have := (List.getElem?_eq_some_iff.1 hi).1; rw [f.h8] at this; exact this
  have h1 := h.cell hf (j := i * 2 + j) (by omega)
  show w.cell? ⟨G, k * 18 + i * 2 + j, none⟩ = _
  rw [Nat.add_assoc, h1]
  show (pgE.xv f.ps ++ [Value.int .i64 f.wear, Value.bool f.bad])[i * 2 + j]? = _
  rw [List.getElem?_append_left (by rw [xv16]; omega)]
  exact pgE.xv_at f.ps i j p hi hj
/-- How many of a flash's block's pages are written. -/
def fkN (f : FkR) : Nat := nextP (f.ps.map PgR.D)
/-- What program refuses; the flash behind it. -/
def prC (fs : List FkR) (x : Int) (nb : Nat) : Int := if 400 < nb then 1 else if btcC fs x = 0 then (if (fs[x.toNat]?).map fkN = some 8 then 5 else 0) else btcC fs x
def prAt (fs : List FkR) (k : Nat) (p : PgR) : List FkR := match fs[k]? with | some f => fs.set k (f.pg (fkN f) p) | none => fs
def prF (fs : List FkR) (x : Int) (p : PgR) : List FkR := if prC fs x p.zs.length = 0 then prAt fs x.toNat p else fs
def PrA (w0 : World) (F G n : Nat) (fs : List FkR) (x : Int) (p : PgR) (e : Ending) (w' : World) : Prop := e = .returned (errV (prC fs x p.zs.length)) ∧ FO w0 w' F G n (prF fs x p)
end

section
open Go.RowKit
set_option maxRecDepth 100000 in
set_option maxHeartbeats 4000000 in
theorem btpI (F G n : Nat) (fs : List FkR) (x : Int) (ba : Option Addr) (nb bc : Nat) (w0 w : World) (hn : n ≤ 1048576) (hnb : nb ≤ 1048576) (h : FO w0 w F G n fs) (hr : ∀ f ∈ fs, ∀ p ∈ f.ps, Rd w p.a p.zs) (ht : totB (fs.map FkR.D) ≤ 1048576) :
    Calls Tryd.prog 65 #[.pointer (some ⟨F, 0, none⟩), .int .i64 x, .slice ba nb bc] w fun e w' => e = .returned (.tuple #[if prC fs x nb = 0 then .pointer (some ⟨G, x.toNat * 18, none⟩) else .pointer none, errV (prC fs x nb)]) ∧ Below w.heap.size w w' := by
  have hcall := btcI F G n fs x w0 w hn h
  by_cases hb : 400 < nb
  · have hbi : (400 : Int) < (nb : Int) := by omega
    have HEE : prC fs x nb = 1 := by unfold prC; rw [if_pos hb]
    rw [HEE]
    clear h hr ht hcall HEE
    go_enter Tryd.func65, Tryd.ntmps65
    go_wp2
    refine bodyPost_ret (v := .tuple #[.pointer none, .iface 112 (.int .i64 1)]) (by simp [results, Tryd.f65, go_sem]) rfl ?_
    exact ⟨by simp [errV], Below.refl _ _⟩
  · have hbi : ¬ (400 : Int) < (nb : Int) := by omega
    by_cases hc : btcC fs x = 0
    · obtain ⟨k, f, rfl, hf⟩ := btc_zero hc
      have hrp := h.rdPs hf (hr f (List.mem_of_getElem? hf))
      have htp : totP (f.ps.map PgR.D) ≤ 1048576 := by
        have := totB_mem (b := f.D) (bs := fs.map FkR.D) (List.mem_map_of_mem (List.mem_of_getElem? hf))
        have h2 : f.D.ps = f.ps.map PgR.D := rfl
        rw [h2] at this
        omega
      have hwi := writtenI (some ⟨G, k * 18, none⟩) 8 8 f.ps w f.h8 htp hrp
      have hle : nextP (f.ps.map PgR.D) ≤ 8 := by have := nextP_le (f.ps.map PgR.D); simp [f.h8] at this; exact this
      rw [if_pos hc, hc, errV_zero, Int.toNat_natCast] at hcall
      have hee : prC fs (k : Int) nb = if nextP (f.ps.map PgR.D) = 8 then 5 else 0 := by unfold prC; rw [if_neg hb, if_pos hc]; simp [hf, fkN]
      rw [hee, Int.toNat_natCast]
      obtain ⟨m, hm⟩ : ∃ m, nextP (f.ps.map PgR.D) = m := ⟨_, rfl⟩
      rw [hm] at hwi hle ⊢
      clear h hf hc hr hrp htp hm hee ht
      by_cases h8 : m = 8
      · subst h8
        go_enter Tryd.func65, Tryd.ntmps65
        go_wp2_with fail
        refine hcall.mono ?_
        rintro e w1 ⟨rfl, hw⟩
        obtain rfl := hw.symm
        go_wp2_with fail
        refine hwi.mono ?_
        rintro e w2 ⟨rfl, b2⟩
        go_wp2
        refine bodyPost_ret (v := .tuple #[.pointer none, .iface 112 (.int .i64 5)]) (by simp [results, Tryd.f65, go_sem]) rfl ?_
        exact ⟨by simp [errV], b2⟩
      · have hmm : ((m : Int) == 8) = false := by simp; omega
        rw [if_neg h8]
        go_enter Tryd.func65, Tryd.ntmps65
        go_wp2_with fail
        refine hcall.mono ?_
        rintro e w1 ⟨rfl, hw⟩
        obtain rfl := hw.symm
        go_wp2_with fail
        refine hwi.mono ?_
        rintro e w2 ⟨rfl, b2⟩
        go_wp2
        refine bodyPost_ret (v := .tuple #[.pointer (some ⟨G, k * 18, none⟩), .nilIface]) (by simp [results, Tryd.f65, go_sem]) rfl ?_
        exact ⟨by simp [errV], b2⟩
    · rw [if_neg hc, errV_some hc] at hcall
      have hee : prC fs x nb = btcC fs x := by unfold prC; rw [if_neg hb, if_neg hc]
      rw [hee, if_neg hc, errV_some hc]
      generalize btcC fs x = c at hcall
      clear h hc hr ht hee
      go_enter Tryd.func65, Tryd.ntmps65
      go_wp2_with fail
      refine hcall.mono ?_
      rintro e w1 ⟨rfl, hw⟩
      obtain rfl := hw.symm
      go_wp2
      refine bodyPost_ret (v := .tuple #[.pointer none, .iface 112 (.int .i64 c)]) (by simp [results, Tryd.f65, go_sem]) rfl ?_
      exact ⟨rfl, Below.refl _ _⟩
set_option maxRecDepth 100000 in
set_option maxHeartbeats 8000000 in
theorem cProgI (F G n k : Nat) (fs : List FkR) (f : FkR) (ba : Option Addr) (nb bc : Nat) (zs : List Int) (w0 w : World) (hz : zs.length = nb) (h : FO w0 w F G n fs) (hf : fs[k]? = some f) (h8 : fkN f < 8) (hr : ∀ p ∈ f.ps, Rd w p.a p.zs) (htp : totP (f.ps.map PgR.D) ≤ 1048576) :
    Calls Tryd.prog 66 #[.pointer (some ⟨G, k * 18, none⟩), .slice ba nb bc] w (FOA w0 w F G n (prAt fs k ⟨true, ba, bc, zs⟩)) := by
  generalize hGP : FOA w0 w F G n (prAt fs k ⟨true, ba, bc, zs⟩) = P
  have HGP : Hid _ := hGP
  clear hGP
  have hwi := writtenI (some ⟨G, k * 18, none⟩) 8 8 f.ps w.drew f.h8 htp ((h.rdPs hf hr).keep (Below.refl _ _).drew)
  have HF : Hid (prAt fs k ⟨true, ba, bc, zs⟩ = fs.set k (f.pg (fkN f) ⟨true, ba, bc, zs⟩)) := by show _ = _; unfold prAt; rw [hf]
  have HFO : Hid (FO w0 w.drew F G n fs) := h.keep (Below.refl _ _).drew
  have HF2 : Hid (fs[k]? = some f) := hf
  have HZ : Hid (zs.length = nb) := hz
  unfold fkN at h8 HF
  obtain ⟨m, hm⟩ : ∃ m, nextP (f.ps.map PgR.D) = m := ⟨_, rfl⟩
  rw [hm] at hwi h8 HF
  have hmi : (m : Int) < 8 := by omega
  clear h hf hr htp hm hz
  go_enter Tryd.func66, Tryd.ntmps66
  go_upto_region 0 with fail
  refine wp_region_noPanic ?_
  refine wp_region_last (fun W : World => True) 11 (by kernel_rfl) (by kernel_rfl) (by go_keep) 11 (by kernel_rfl) (fun hS => ?_)
  refine wpAnyH_take (i := 0) (v := ?gv1) rfl (by kernel_rfl) (by kernel_rfl) (by kernel_rfl) (fun _ _ _ h => h) (Or.inl ⟨by kernel_rfl, ?gy1⟩) (by assumption) ?gr1
  case gy1 => (intro w' hSw; (try dsimp only at hSw); go_simp; (try with_reducible rfl))
  try simp only [Act.put, List.setIfInBounds_toArray, List.set_cons_zero, List.set_cons_succ, List.getElem_toArray, List.getElem_cons_zero]
  refine wpAnyH_take (i := 1) (v := ?gv2) rfl (by kernel_rfl) (by kernel_rfl) (by kernel_rfl) (fun _ _ _ h => h) (Or.inl ⟨by kernel_rfl, ?gy2⟩) (by assumption) ?gr2
  case gy2 => (intro w' hSw; (try dsimp only at hSw); go_simp; (try with_reducible rfl))
  try simp only [Act.put, List.setIfInBounds_toArray, List.set_cons_zero, List.set_cons_succ, List.getElem_toArray, List.getElem_cons_succ, List.getElem_cons_zero]
  refine wpAnyH_take (i := 2) (v := ?gv3) rfl (by kernel_rfl) (by kernel_rfl) (by kernel_rfl) (fun _ _ _ h => h) (Or.inl ⟨by kernel_rfl, ?gy3⟩) (by assumption) ?gr3
  case gy3 => (intro w' hSw; (try dsimp only at hSw); go_simp; (try with_reducible rfl))
  try simp only [Act.put, List.setIfInBounds_toArray, List.set_cons_zero, List.set_cons_succ, List.getElem_toArray, List.getElem_cons_succ, List.getElem_cons_zero]
  refine wpAnyH_take (i := 3) (v := ?gv4) rfl (by kernel_rfl) (by kernel_rfl) (by kernel_rfl) (fun _ _ _ h => h) (Or.inl ⟨by kernel_rfl, ?gy4⟩) (by assumption) ?gr4
  case gy4 => (intro w' hSw; (try dsimp only at hSw); go_simp; (try with_reducible rfl))
  try simp only [Act.put, List.setIfInBounds_toArray, List.set_cons_zero, List.set_cons_succ, List.getElem_toArray, List.getElem_cons_succ, List.getElem_cons_zero]
  refine wpAnyH_take (i := 4) (v := ?gv5) rfl (by kernel_rfl) (by kernel_rfl) (by kernel_rfl) (fun _ _ _ h => h) (Or.inl ⟨by kernel_rfl, ?gy5⟩) (by assumption) ?gr5
  case gy5 => (intro w' hSw; (try dsimp only at hSw); go_simp; (try with_reducible rfl))
  try simp only [Act.put, List.setIfInBounds_toArray, List.set_cons_zero, List.set_cons_succ, List.getElem_toArray, List.getElem_cons_succ, List.getElem_cons_zero]
  refine wpAnyH_take (i := 6) (v := ?gv6) rfl (by kernel_rfl) (by kernel_rfl) (by kernel_rfl) (fun _ _ _ h => h) (Or.inl ⟨by kernel_rfl, ?gy6⟩) (by assumption) ?gr6
  case gy6 => (intro w' hSw; (try dsimp only at hSw); go_simp; (try with_reducible rfl))
  try simp only [Act.put, List.setIfInBounds_toArray, List.set_cons_zero, List.set_cons_succ, List.getElem_toArray, List.getElem_cons_succ, List.getElem_cons_zero]
  refine wpAnyH_take (i := 7) (v := ?gv7) rfl (by kernel_rfl) (by kernel_rfl) (by kernel_rfl) (fun _ _ _ h => h) (Or.inl ⟨by kernel_rfl, ?gy7⟩) (by assumption) ?gr7
  case gy7 => (intro w' hSw; (try dsimp only at hSw); go_simp; (try with_reducible rfl))
  try simp only [Act.put, List.setIfInBounds_toArray, List.set_cons_zero, List.set_cons_succ, List.getElem_toArray, List.getElem_cons_succ, List.getElem_cons_zero]
  refine wpAnyH_take (i := 8) (v := ?gv8) rfl (by kernel_rfl) (by kernel_rfl) (by kernel_rfl) (fun _ _ _ h => h) (Or.inl ⟨by kernel_rfl, ?gy8⟩) (by assumption) ?gr8
  case gy8 => (intro w' hSw; (try dsimp only at hSw); go_simp; (try with_reducible rfl))
  try simp only [Act.put, List.setIfInBounds_toArray, List.set_cons_zero, List.set_cons_succ, List.getElem_toArray, List.getElem_cons_succ, List.getElem_cons_zero]
  refine wpAnyH_take (i := 9) (v := ?gv9) rfl (by kernel_rfl) (by kernel_rfl) (by kernel_rfl) (fun _ _ _ h => h) (Or.inl ⟨by kernel_rfl, ?gy9⟩) (by assumption) ?gr9
  case gy9 => (intro w' hSw; (try dsimp only at hSw); go_simp; (try with_reducible rfl))
  try simp only [Act.put, List.setIfInBounds_toArray, List.set_cons_zero, List.set_cons_succ, List.getElem_toArray, List.getElem_cons_succ, List.getElem_cons_zero]
  refine wpAnyH_ready (rs := [5]) (by kernel_rfl) (by simp) ?_
  refine AllReadyH.cons rfl (fun K hK => ?_) AllReadyH.nil
  go_simp
  (with_reducible refine hwi.mono ?_)
  rintro e w2 ⟨rfl, b2⟩
  have fo2 := HFO.out.keep b2
  obtain ⟨v0, p0⟩ := fo2.is HF2.out (j := m * 2) (by omega)
  obtain ⟨v1, p1⟩ := fo2.is HF2.out (j := m * 2 + 1) (by omega)
  have r0 : w2.cell? ⟨G, k * 18 + m * 2, none⟩ = some v0 := p0
  have r1 : w2.cell? ⟨G, k * 18 + m * 2 + 1, none⟩ = some v1 := p1
  have f0 := fo2.g.frozen (k * 18 + m * 2)
  have f1 := fo2.g.frozen (k * 18 + m * 2 + 1)
  obtain ⟨gs1, g1, foU, hgU⟩ := fo2.used (u := true) HF2.out h8
  obtain ⟨v2, p2⟩ := foU.is hgU (j := m * 2 + 1) (by omega)
  have r2 : (w2.setCell ⟨G, k * 18 + m * 2, none⟩ (.bool true)).cell? ⟨G, k * 18 + m * 2 + 1, none⟩ = some v2 := p2
  have f2 := foU.g.frozen (k * 18 + m * 2 + 1)
  have HFN : Hid _ := And.intro (fo2.page (p := ⟨true, ba, bc, zs⟩) HF2.out h8 HZ.out) b2
  clear p0 p1 p2 foU hgU fo2 b2
  clear hS
  try dsimp only
  refine Shut.out hK _ _ (trivial) (fun hS => ?_)
  try simp only [Act.put, List.setIfInBounds_toArray, List.set_cons_zero, List.set_cons_succ, List.getElem_toArray, List.getElem_cons_succ, List.getElem_cons_zero]
  refine wpAnyH_take (i := 10) (v := ?gv10) rfl (by kernel_rfl) (by kernel_rfl) (by kernel_rfl) (fun _ _ _ h => h) (Or.inl ⟨by kernel_rfl, ?gy10⟩) (by assumption) ?gr10
  case gy10 => (intro w' hSw; (try dsimp only at hSw); go_simp; (try with_reducible rfl))
  try simp only [Act.put, List.setIfInBounds_toArray, List.set_cons_zero, List.set_cons_succ, List.getElem_toArray, List.getElem_cons_succ, List.getElem_cons_zero]
  refine wpAnyH_done (by kernel_rfl) ?_ _
  refine wpOp_last rfl (fun K hK => ?_)
  clear hS
  go_simp
  refine Shut.out hK _ _ (NoPanic.normal ?_)
  try go_wp2
  try go_end0
  rw [← HGP.out]
  refine ⟨rfl, by rw [HF.out]; exact HFN.out.1, ?_⟩
  have b2 := HFN.out.2
  have hsv : Sv [G] w w2 := Below.sv ((Below.refl w.heap.size w).drew.trans b2) [G]
  exact hsv.trans (Sv.gr (gr_more (gr_setC w2 G (k * 18 + m * 2) _) _ _) (fun g hg => by simp at hg; simp [hg]))
theorem pr_zero {fs : List FkR} {x : Int} {nb : Nat} (h : prC fs x nb = 0) : ∃ (k : Nat) (f : FkR), x = (k : Int) ∧ fs[k]? = some f ∧ fkN f < 8 := by
  unfold prC at h
  split at h
  · omega
  · split at h
    · rename_i hb
      obtain ⟨k, f, rfl, hf⟩ := btc_zero hb
      refine ⟨k, f, rfl, hf, ?_⟩
      rw [Int.toNat_natCast, hf] at h
      simp only [Option.map_some, Option.some.injEq] at h
      have hle : fkN f ≤ 8 := by have := nextP_le (f.ps.map PgR.D); simp [f.h8] at this; exact this
      have : ¬ fkN f = 8 := fun h8 => by rw [if_pos h8] at h; omega
      omega
    · rename_i hb
      exact absurd h hb
set_option maxRecDepth 100000 in
set_option maxHeartbeats 4000000 in
theorem programF (F G n : Nat) (fs : List FkR) (x : Int) (ba : Option Addr) (nb bc : Nat) (zs : List Int) (w0 w : World) (hn : n ≤ 1048576) (hz : zs.length = nb) (hnb : nb ≤ 1048576) (h : FO w0 w F G n fs) (hr : ∀ f ∈ fs, ∀ p ∈ f.ps, Rd w p.a p.zs) (ht : totB (fs.map FkR.D) ≤ 1048576) :
    Calls Tryd.prog 37 #[.pointer (some ⟨F, 0, none⟩), .int .i64 x, .slice ba nb bc] w (PrA w0 F G n fs x ⟨true, ba, bc, zs⟩) := by
  have hcall := btpI F G n fs x ba nb bc w0 w hn hnb h hr ht
  generalize hGP : PrA w0 F G n fs x ⟨true, ba, bc, zs⟩ = P
  have HGP : Hid _ := hGP
  clear hGP
  have HFO : Hid (∀ w', Below w.heap.size w w' → FO w0 w' F G n fs) := fun w' hb => h.keep hb
  have HZ : Hid (zs.length = nb) := hz
  by_cases hc : prC fs x nb = 0
  · obtain ⟨k, f, rfl, hf, h8⟩ := pr_zero hc
    rw [if_pos hc, hc, errV_zero, Int.toNat_natCast] at hcall
    have htp : totP (f.ps.map PgR.D) ≤ 1048576 := by
      have := totB_mem (b := f.D) (bs := fs.map FkR.D) (List.mem_map_of_mem (List.mem_of_getElem? hf))
      have h2 : f.D.ps = f.ps.map PgR.D := rfl
      rw [h2] at this
      omega
    have HC2 : Hid (∀ w', Below w.heap.size w w' → Calls Tryd.prog 66 #[.pointer (some ⟨G, k * 18, none⟩), .slice ba nb bc] w' (FOA w0 w' F G n (prAt fs k ⟨true, ba, bc, zs⟩))) := fun w' hb => cProgI F G n k fs f ba nb bc zs w0 w' hz (h.keep hb) hf h8 (fun p hp => (hr f (List.mem_of_getElem? hf) p hp).keep hb) htp
    have HC : Hid (prC fs (k : Int) nb = 0) := hc
    clear h hf hr hc hz ht htp h8
    go_enter Tryd.func37, Tryd.ntmps37
    go_wp2_with fail
    refine hcall.mono ?_
    rintro e w1 ⟨rfl, b1⟩
    have hcall2 := HC2.out w1 b1
    go_wp2_with fail
    refine hcall2.mono ?_
    rintro e w2 ⟨rfl, hfo, _⟩
    go_wp2
    rw [← HGP.out]
    have e1 : prC fs (k : Int) (PgR.zs ⟨true, ba, bc, zs⟩).length = 0 := by show prC fs (k : Int) zs.length = 0; rw [HZ.out]; exact HC.out
    refine ⟨by rw [e1]; rfl, ?_⟩
    unfold prF
    rw [e1, if_pos rfl, Int.toNat_natCast]
    exact hfo
  · rw [if_neg hc, errV_some hc] at hcall
    have HEE : Hid (¬ prC fs x nb = 0) := hc
    obtain ⟨c, hcc⟩ : ∃ c, prC fs x nb = c := ⟨_, rfl⟩
    have HC : Hid _ := hcc
    rw [hcc] at hcall
    clear h hr ht hz hc hcc
    go_enter Tryd.func37, Tryd.ntmps37
    go_wp2_with fail
    refine hcall.mono ?_
    rintro e w1 ⟨rfl, b1⟩
    have hfo := HFO.out w1 b1
    go_wp2
    rw [← HGP.out]
    have e2 : prC fs x (PgR.zs ⟨true, ba, bc, zs⟩).length = prC fs x nb := by show prC fs x zs.length = _; rw [HZ.out]
    exact ⟨by rw [e2, errV_some HEE.out, HC.out]; rfl, by unfold prF; rw [e2, if_neg HEE.out]; exact hfo⟩
end
end Go.Proofs.YtkhgafmhbibikaaDoor
