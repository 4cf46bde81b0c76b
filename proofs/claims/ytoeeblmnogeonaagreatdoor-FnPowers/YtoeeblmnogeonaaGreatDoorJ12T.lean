/-
  Joined: ChPn, ChQi, DrK, EntOf.
-/
import Derived.Test.YtoeeblmnogeonaaGreatDoorJ11T
namespace Go.Proofs.YtoeeblmnogeonaaGreatDoor
section
open Go.RowKit
set_option maxRecDepth 100000 in
set_option maxHeartbeats 4000000 in
theorem btpI (F G n : Nat) (fs : List FkR) (x : Int) (ba : Option Addr) (nb bc : Nat) (w0 w : World) (hn : n ≤ 1048576) (hnb : nb ≤ 1048576) (h : FO w0 w F G n fs) (hr : ∀ f ∈ fs, ∀ p ∈ f.ps, Rd w p.a p.zs) (ht : totB (fs.map FkR.D) ≤ 1048576) :
    Calls Tryz.prog 98 #[.pointer (some ⟨F, 0, none⟩), .int .i64 x, .slice ba nb bc] w fun e w' => e = .returned (.tuple #[if prC fs x nb = 0 then .pointer (some ⟨G, x.toNat * 18, none⟩) else .pointer none, errV (prC fs x nb)]) ∧ Below w.heap.size w w' := by
  have hcall := btcI F G n fs x w0 w hn h
  by_cases hb : 400 < nb
  · have hbi : (400 : Int) < (nb : Int) := by omega
    have HEE : prC fs x nb = 1 := by unfold prC; rw [if_pos hb]
    rw [HEE]
    clear h hr ht hcall HEE
    go_enter Tryz.func98, Tryz.ntmps98
    go_wp2
    refine bodyPost_ret (v := .tuple #[.pointer none, .iface 149 (.int .i64 1)]) (by simp [results, Tryz.f98, go_sem]) rfl ?_
    exact ⟨by simp [errV], Below.refl _ _⟩
  · have hbi : ¬ (400 : Int) < (nb : Int) := by omega
    by_cases hc : btcC fs x = 0
    · obtain ⟨k, f, rfl, hf⟩ := btc_zero hc
      have hrp := h.rdPs hf (hr f (List.mem_of_getElem? hf))
      have htp : totP (f.ps.map PgR.D) ≤ 1048576 := by
        have := totB_mem (b := f.D) (bs := fs.map FkR.D) (List.mem_map_of_mem (List.mem_of_getElem? hf))
        have h2 : f.D.ps = f.ps.map PgR.D := rfl
        rw [h2] at this
        omega
      have hwi := writtenI (some ⟨G, k * 18, none⟩) 8 8 f.ps w f.h8 htp hrp
      have hle : nextP (f.ps.map PgR.D) ≤ 8 := by have := nextP_le (f.ps.map PgR.D); simp [f.h8] at this; exact this
      rw [if_pos hc, hc, errV_zero, Int.toNat_natCast] at hcall
      have hee : prC fs (k : Int) nb = if nextP (f.ps.map PgR.D) = 8 then 5 else 0 := by unfold prC; rw [if_neg hb, if_pos hc]; simp [hf, fkN]
      rw [hee, Int.toNat_natCast]
      obtain ⟨m, hm⟩ : ∃ m, nextP (f.ps.map PgR.D) = m := ⟨_, rfl⟩
      rw [hm] at hwi hle ⊢
      clear h hf hc hr hrp htp hm hee ht
      by_cases h8 : m = 8
      · subst h8
        go_enter Tryz.func98, Tryz.ntmps98
        go_wp2_with fail
        refine hcall.mono ?_
        rintro e w1 ⟨rfl, hw⟩
        obtain rfl := hw.symm
        go_wp2_with fail
        refine hwi.mono ?_
        rintro e w2 ⟨rfl, b2⟩
        go_wp2
        refine bodyPost_ret (v := .tuple #[.pointer none, .iface 149 (.int .i64 5)]) (by simp [results, Tryz.f98, go_sem]) rfl ?_
        exact ⟨by simp [errV], b2⟩
      · have hmm : ((m : Int) == 8) = false := by simp; omega
        rw [if_neg h8]
        go_enter Tryz.func98, Tryz.ntmps98
        go_wp2_with fail
        refine hcall.mono ?_
        rintro e w1 ⟨rfl, hw⟩
        obtain rfl := hw.symm
        go_wp2_with fail
        refine hwi.mono ?_
        rintro e w2 ⟨rfl, b2⟩
        go_wp2
        refine bodyPost_ret (v := .tuple #[.pointer (some ⟨G, k * 18, none⟩), .nilIface]) (by simp [results, Tryz.f98, go_sem]) rfl ?_
        exact ⟨by simp [errV], b2⟩
    · rw [if_neg hc, errV_some hc] at hcall
      have hee : prC fs x nb = btcC fs x := by unfold prC; rw [if_neg hb, if_neg hc]
      rw [hee, if_neg hc, errV_some hc]
      generalize btcC fs x = c at hcall
      clear h hc hr ht hee
      go_enter Tryz.func98, Tryz.ntmps98
      go_wp2_with fail
      refine hcall.mono ?_
      rintro e w1 ⟨rfl, hw⟩
      obtain rfl := hw.symm
      go_wp2
      refine bodyPost_ret (v := .tuple #[.pointer none, .iface 149 (.int .i64 c)]) (by simp [results, Tryz.f98, go_sem]) rfl ?_
      exact ⟨rfl, Below.refl _ _⟩
set_option maxRecDepth 100000 in
set_option maxHeartbeats 8000000 in
theorem cProgI (F G n k : Nat) (fs : List FkR) (f : FkR) (ba : Option Addr) (nb bc : Nat) (zs : List Int) (w0 w : World) (hz : zs.length = nb) (h : FO w0 w F G n fs) (hf : fs[k]? = some f) (h8 : fkN f < 8) (hr : ∀ p ∈ f.ps, Rd w p.a p.zs) (htp : totP (f.ps.map PgR.D) ≤ 1048576) :
    Calls Tryz.prog 101 #[.pointer (some ⟨G, k * 18, none⟩), .slice ba nb bc] w (FOA w0 w F G n (prAt fs k ⟨true, ba, bc, zs⟩)) := by
  generalize hGP : FOA w0 w F G n (prAt fs k ⟨true, ba, bc, zs⟩) = P
  have HGP : Hid _ := hGP
  clear hGP
  have hwi := writtenI (some ⟨G, k * 18, none⟩) 8 8 f.ps w.drew f.h8 htp ((h.rdPs hf hr).keep (Below.refl _ _).drew)
  have HF : Hid (prAt fs k ⟨true, ba, bc, zs⟩ = fs.set k (f.pg (fkN f) ⟨true, ba, bc, zs⟩)) := by show _ = _; unfold prAt; rw [hf]
  have HFO : Hid (FO w0 w.drew F G n fs) := h.keep (Below.refl _ _).drew
  have HF2 : Hid (fs[k]? = some f) := hf
  have HZ : Hid (zs.length = nb) := hz
  unfold fkN at h8 HF
  obtain ⟨m, hm⟩ : ∃ m, nextP (f.ps.map PgR.D) = m := ⟨_, rfl⟩
  rw [hm] at hwi h8 HF
  have hmi : (m : Int) < 8 := by omega
  clear h hf hr htp hm hz
  go_enter Tryz.func101, Tryz.ntmps101
  go_upto_region 0 with fail
  refine wp_region_noPanic ?_
  refine wp_region_last (fun W : World => True) 11 (by kernel_rfl) (by kernel_rfl) (by go_keep) 11 (by kernel_rfl) (fun hS => ?_)
  refine wpAnyH_take (i := 0) (v := ?gv1) rfl (by kernel_rfl) (by kernel_rfl) (by kernel_rfl) (fun _ _ _ h => h) (Or.inl ⟨by kernel_rfl, ?gy1⟩) (by assumption) ?gr1
  case gy1 => (intro w' hSw; (try dsimp only at hSw); go_simp; (try with_reducible rfl))
  try simp only [Act.put, List.setIfInBounds_toArray, List.set_cons_zero, List.set_cons_succ, List.getElem_toArray, List.getElem_cons_zero]
  refine wpAnyH_take (i := 1) (v := ?gv2) rfl (by kernel_rfl) (by kernel_rfl) (by kernel_rfl) (fun _ _ _ h => h) (Or.inl ⟨by kernel_rfl, ?gy2⟩) (by assumption) ?gr2
  case gy2 => (intro w' hSw; (try dsimp only at hSw); go_simp; (try with_reducible rfl))
  try simp only [Act.put, List.setIfInBounds_toArray, List.set_cons_zero, List.set_cons_succ, List.getElem_toArray, List.getElem_cons_succ, List.getElem_cons_zero]
  refine wpAnyH_take (i := 2) (v := ?gv3) rfl (by kernel_rfl) (by kernel_rfl) (by kernel_rfl) (fun _ _ _ h => h) (Or.inl ⟨by kernel_rfl, ?gy3⟩) (by assumption) ?gr3
  case gy3 => (intro w' hSw; (try dsimp only at hSw); go_simp; (try with_reducible rfl))
  try simp only [Act.put, List.setIfInBounds_toArray, List.set_cons_zero, List.set_cons_succ, List.getElem_toArray, List.getElem_cons_succ, List.getElem_cons_zero]
  refine wpAnyH_take (i := 3) (v := ?gv4) rfl (by kernel_rfl) (by kernel_rfl) (by kernel_rfl) (fun _ _ _ h => h) (Or.inl ⟨by kernel_rfl, ?gy4⟩) (by assumption) ?gr4
  case gy4 => (intro w' hSw; (try dsimp only at hSw); go_simp; (try with_reducible rfl))
  try simp only [Act.put, List.setIfInBounds_toArray, List.set_cons_zero, List.set_cons_succ, List.getElem_toArray, List.getElem_cons_succ, List.getElem_cons_zero]
  refine wpAnyH_take (i := 4) (v := ?gv5) rfl (by kernel_rfl) (by kernel_rfl) (by kernel_rfl) (fun _ _ _ h => h) (Or.inl ⟨by kernel_rfl, ?gy5⟩) (by assumption) ?gr5
  case gy5 => (intro w' hSw; (try dsimp only at hSw); go_simp; (try with_reducible rfl))
  try simp only [Act.put, List.setIfInBounds_toArray, List.set_cons_zero, List.set_cons_succ, List.getElem_toArray, List.getElem_cons_succ, List.getElem_cons_zero]
  refine wpAnyH_take (i := 6) (v := ?gv6) rfl (by kernel_rfl) (by kernel_rfl) (by kernel_rfl) (fun _ _ _ h => h) (Or.inl ⟨by kernel_rfl, ?gy6⟩) (by assumption) ?gr6
  case gy6 => (intro w' hSw; (try dsimp only at hSw); go_simp; (try with_reducible rfl))
  try simp only [Act.put, List.setIfInBounds_toArray, List.set_cons_zero, List.set_cons_succ, List.getElem_toArray, List.getElem_cons_succ, List.getElem_cons_zero]
  refine wpAnyH_take (i := 7) (v := ?gv7) rfl (by kernel_rfl) (by kernel_rfl) (by kernel_rfl) (fun _ _ _ h => h) (Or.inl ⟨by kernel_rfl, ?gy7⟩) (by assumption) ?gr7
  case gy7 => (intro w' hSw; (try dsimp only at hSw); go_simp; (try with_reducible rfl))
  try simp only [Act.put, List.setIfInBounds_toArray, List.set_cons_zero, List.set_cons_succ, List.getElem_toArray, List.getElem_cons_succ, List.getElem_cons_zero]
  refine wpAnyH_take (i := 8) (v := ?gv8) rfl (by kernel_rfl) (by kernel_rfl) (by kernel_rfl) (fun _ _ _ h => h) (Or.inl ⟨by kernel_rfl, ?gy8⟩) (by assumption) ?gr8
  case gy8 => (intro w' hSw; (try dsimp only at hSw); go_simp; (try with_reducible rfl))
  try simp only [Act.put, List.setIfInBounds_toArray, List.set_cons_zero, List.set_cons_succ, List.getElem_toArray, List.getElem_cons_succ, List.getElem_cons_zero]
  refine wpAnyH_take (i := 9) (v := ?gv9) rfl (by kernel_rfl) (by kernel_rfl) (by kernel_rfl) (fun _ _ _ h => h) (Or.inl ⟨by kernel_rfl, ?gy9⟩) (by assumption) ?gr9
  case gy9 => (intro w' hSw; (try dsimp only at hSw); go_simp; (try with_reducible rfl))
  try simp only [Act.put, List.setIfInBounds_toArray, List.set_cons_zero, List.set_cons_succ, List.getElem_toArray, List.getElem_cons_succ, List.getElem_cons_zero]
  refine wpAnyH_ready (rs := [5]) (by kernel_rfl) (by simp) ?_
  refine AllReadyH.cons rfl (fun K hK => ?_) AllReadyH.nil
  go_simp
  (with_reducible refine hwi.mono ?_)
  rintro e w2 ⟨rfl, b2⟩
  have fo2 := HFO.out.keep b2
  obtain ⟨v0, p0⟩ := fo2.is HF2.out (j := m * 2) (by omega)
  obtain ⟨v1, p1⟩ := fo2.is HF2.out (j := m * 2 + 1) (by omega)
  have r0 : w2.cell? ⟨G, k * 18 + m * 2, none⟩ = some v0 := p0
  have r1 : w2.cell? ⟨G, k * 18 + m * 2 + 1, none⟩ = some v1 := p1
  have f0 := fo2.g.frozen (k * 18 + m * 2)
  have f1 := fo2.g.frozen (k * 18 + m * 2 + 1)
  obtain ⟨gs1, g1, foU, hgU⟩ := fo2.used (u := true) HF2.out h8
  obtain ⟨v2, p2⟩ := foU.is hgU (j := m * 2 + 1) (by omega)
  have r2 : (w2.setCell ⟨G, k * 18 + m * 2, none⟩ (.bool true)).cell? ⟨G, k * 18 + m * 2 + 1, none⟩ = some v2 := p2
  have f2 := foU.g.frozen (k * 18 + m * 2 + 1)
  have HFN : Hid _ := And.intro (fo2.page (p := ⟨true, ba, bc, zs⟩) HF2.out h8 HZ.out) b2
  clear p0 p1 p2 foU hgU fo2 b2
  clear hS
  try dsimp only
  refine Shut.out hK _ _ (trivial) (fun hS => ?_)
  try simp only [Act.put, List.setIfInBounds_toArray, List.set_cons_zero, List.set_cons_succ, List.getElem_toArray, List.getElem_cons_succ, List.getElem_cons_zero]
  refine wpAnyH_take (i := 10) (v := ?gv10) rfl (by kernel_rfl) (by kernel_rfl) (by kernel_rfl) (fun _ _ _ h => h) (Or.inl ⟨by kernel_rfl, ?gy10⟩) (by assumption) ?gr10
  case gy10 => (intro w' hSw; (try dsimp only at hSw); go_simp; (try with_reducible rfl))
  try simp only [Act.put, List.setIfInBounds_toArray, List.set_cons_zero, List.set_cons_succ, List.getElem_toArray, List.getElem_cons_succ, List.getElem_cons_zero]
  refine wpAnyH_done (by kernel_rfl) ?_ _
  refine wpOp_last rfl (fun K hK => ?_)
  clear hS
  go_simp
  refine Shut.out hK _ _ (NoPanic.normal ?_)
  try go_wp2
  try go_end0
  rw [← HGP.out]
  refine ⟨rfl, by rw [HF.out]; exact HFN.out.1, ?_⟩
  have b2 := HFN.out.2
  have hsv : Sv [G] w w2 := Below.sv ((Below.refl w.heap.size w).drew.trans b2) [G]
  exact hsv.trans (Sv.gr (gr_more (gr_setC w2 G (k * 18 + m * 2) _) _ _) (fun g hg => by simp at hg; simp [hg]))
theorem pr_zero {fs : List FkR} {x : Int} {nb : Nat} (h : prC fs x nb = 0) : ∃ (k : Nat) (f : FkR), x = (k : Int) ∧ fs[k]? = some f ∧ fkN f < 8 := by
  unfold prC at h
  split at h
  · omega
  · split at h
    · rename_i hb
      obtain ⟨k, f, rfl, hf⟩ := btc_zero hb
      refine ⟨k, f, rfl, hf, ?_⟩
      rw [Int.toNat_natCast, hf] at h
      simp only [Option.map_some, Option.some.injEq] at h
      have hle : fkN f ≤ 8 := by have := nextP_le (f.ps.map PgR.D); simp [f.h8] at this; exact this
      have : ¬ fkN f = 8 := fun h8 => by rw [if_pos h8] at h; omega
      omega
    · rename_i hb
      exact absurd h hb
end

section
open Go.RowKit
/-- The code of a program, and the chip behind it. -/
def codeP (ok : Bool) (ds : List BkD) (x : Int) (nb : Nat) : Int := if 400 < nb then 1 else mayD ok ds x (decide (nextD ds x = 8))
def progAt (ds : List BkD) (k : Nat) (zs : List Int) : List BkD := match ds[k]? with | some b => ds.set k ⟨b.ps.set (nextP b.ps) ⟨true, zs⟩, b.wear, b.bad⟩ | none => ds
def programD (ok : Bool) (ds : List BkD) (x : Int) (zs : List Int) : List BkD := if codeP ok ds x zs.length = 0 then progAt ds x.toNat zs else ds
theorem fl_rd {w : World} {a : Option Addr} {n : Nat} {bs : List BkR} {fs : List FkR} (ht : CR w a n bs) (h : FlOf bs fs) : ∀ f ∈ fs, ∀ p ∈ f.ps, Rd w p.a p.zs := fun f hf p hp => by
  obtain ⟨i, hi⟩ := List.mem_iff_getElem?.1 hf
  obtain ⟨r, hr, h1, _, _⟩ := h.at hi
  rw [h1] at hp
  exact RdE.each (RdE.each ht.rd r (List.mem_of_getElem? hr)) p hp
theorem pr_code {bs : List BkR} {fs : List FkR} (h : FlOf bs fs) (x : Int) (nb : Nat) : prC fs x nb = codeP true (bs.map BkR.D) x nb := by
  unfold prC codeP
  split
  · rfl
  · by_cases hx : 0 ≤ x ∧ x < (bs.length : Int)
    · obtain ⟨k, rfl⟩ : ∃ k : Nat, x = (k : Int) := ⟨x.toNat, by omega⟩
      obtain ⟨r, hr⟩ : ∃ r, bs[k]? = some r := ⟨_, List.getElem?_eq_getElem (by omega)⟩
      obtain ⟨f, hf, h1, _, h3⟩ := h.2 k _ hr
      rw [mayD_in hr, nextD_in hr, btcC_in hf, ← h3, ← h1]
      cases f.bad with
      | true => simp
      | false =>
        simp only [Int.toNat_natCast, hf, Option.map_some, Option.some.injEq, fkN]
        by_cases h5 : nextP (f.ps.map PgR.D) = 8
        · simp [h5]
        · have h6 : ¬ ((nextP (f.ps.map PgR.D) : Nat) : Int) = 8 := by omega
          simp [h5, h6]
    · have h1 := h.1
      have hb : btcC fs x = 1 := by unfold btcC; rw [if_pos (by omega)]
      rw [hb, mayD_form (.inr (by simp; omega))]
      rfl
theorem totP_bound : ∀ (ps : List PgD), (∀ p ∈ ps, p.zs.length ≤ 400) → totP ps ≤ 401 * ps.length
  | [], _ => by simp [totP]
  | p :: ps, h => by
    have h1 := totP_bound ps (fun q hq => h q (List.mem_cons_of_mem _ hq))
    have h2 := h p List.mem_cons_self
    rw [totP_cons, List.length_cons]
    omega
theorem totB_bound : ∀ (ds : List BkD), (∀ b ∈ ds, totP b.ps ≤ 3208) → totB ds ≤ 3209 * ds.length
  | [], _ => by simp [totB]
  | b :: ds, h => by
    have h1 := totB_bound ds (fun q hq => h q (List.mem_cons_of_mem _ hq))
    have h2 := h b List.mem_cons_self
    rw [totB_cons, List.length_cons]
    omega
theorem totP_put : ∀ (ps : List PgD) (k : Nat) (q : PgD), totP (ps.set k q) ≤ totP ps + 1 + q.zs.length
  | [], _, _ => by simp [totP]
  | d :: ds, 0, q => by rw [List.set_cons_zero, totP_cons, totP_cons]; omega
  | d :: ds, k + 1, q => by
    have := totP_put ds k q
    rw [List.set_cons_succ, totP_cons, totP_cons]
    omega
theorem totB_put : ∀ (ds : List BkD) (k : Nat) (b : BkD), totB (ds.set k b) ≤ totB ds + 1 + totP b.ps
  | [], _, _ => by simp [totB]
  | d :: ds, 0, b => by rw [List.set_cons_zero, totB_cons, totB_cons]; omega
  | d :: ds, k + 1, b => by
    have := totB_put ds k b
    rw [List.set_cons_succ, totB_cons, totB_cons]
    omega
end

section
open Go.RowKit
theorem next_put {ps : List PgD} (hu : ∀ (i : Nat) (p : PgD), ps[i]? = some p → p.used = decide (i < nextP ps)) (hn : nextP ps < ps.length) (zs : List Int) : nextP (ps.set (nextP ps) ⟨true, zs⟩) = nextP ps + 1 := by
  obtain ⟨p, hp⟩ : ∃ p, ps[nextP ps]? = some p := ⟨_, List.getElem?_eq_getElem hn⟩
  have hpu : p.used = false := by rw [hu _ p hp]; simp
  obtain ⟨e1, e2⟩ := split_at hp (⟨true, zs⟩ : PgD)
  obtain ⟨m, hm⟩ : ∃ m, nextP ps = m := ⟨_, rfl⟩
  rw [hm] at e1 e2 ⊢
  have h1 : nextP ps = ((ps.take m).filter PgD.used).length + ((ps.drop (m + 1)).filter PgD.used).length := by
    unfold nextP
    conv => lhs; rw [e1]
    rw [List.filter_append, List.length_append, List.filter_cons_of_neg (by rw [hpu]; simp)]
  have h2 : nextP (ps.set m ⟨true, zs⟩) = ((ps.take m).filter PgD.used).length + (((ps.drop (m + 1)).filter PgD.used).length + 1) := by
    unfold nextP
    rw [e2, List.filter_append, List.length_append, List.filter_cons_of_pos (by rfl), List.length_cons]
  omega
theorem ok_page {b : BkD} (h : BkOk b) (hn : nextP b.ps < 8) {zs : List Int} (hz : zs.length ≤ 400) : BkOk ⟨b.ps.set (nextP b.ps) ⟨true, zs⟩, b.wear, b.bad⟩ := by
  have hnp := next_put (fun i p hp => (h.2.2.2 i p hp).2) (by rw [h.1]; exact hn) zs
  refine ⟨by rw [List.length_set]; exact h.1, h.2.1, h.2.2.1, fun i p hp => ?_⟩
  dsimp only at hp ⊢
  rw [hnp]
  rw [List.getElem?_set] at hp
  split at hp
  · rename_i e
    subst e
    split at hp
    · simp at hp
      subst hp
      exact ⟨by simp [pgOk, hz], by simp⟩
    · simp at hp
  · rename_i e
    obtain ⟨h1, h2⟩ := h.2.2.2 i p hp
    refine ⟨h1, ?_⟩
    rw [h2]
    by_cases h3 : i < nextP b.ps
    · rw [decide_eq_true h3, decide_eq_true (by omega)]
    · rw [decide_eq_false h3, decide_eq_false (by omega)]
theorem ok_set {ds : List BkD} {k : Nat} {b : BkD} (h : ChOk ds) (hb : BkOk b) : ChOk (ds.set k b) :=
  ⟨by rw [List.length_set]; exact h.1, by rw [List.length_set]; exact h.2.1, fun d hd => by
    rcases List.mem_or_eq_of_mem_set hd with h1 | h1
    · exact h.2.2 d h1
    · subst h1; exact hb⟩
theorem ok_prog {ds : List BkD} (h : ChOk ds) (x : Int) (zs : List Int) : ChOk (programD true ds x zs) := by
  unfold programD
  split
  · rename_i hc
    unfold codeP at hc
    split at hc
    · omega
    · rename_i h4
      unfold progAt
      split
      · rename_i b hb
        unfold mayD at hc
        split at hc
        · omega
        · rename_i hx
          obtain ⟨k, rfl⟩ : ∃ k : Nat, x = (k : Int) := ⟨x.toNat, by omega⟩
          rw [Int.toNat_natCast] at hb
          simp only [Int.toNat_natCast, hb, Option.map_some, Option.getD_some] at hc
          split at hc
          · omega
          · split at hc
            · omega
            · rename_i h8
              have hnd : nextD ds (k : Int) = (nextP b.ps : Nat) := by unfold nextD; rw [if_pos (by omega)]; simp [hb]
              rw [hnd] at h8
              have hok := h.2.2 b (List.mem_of_getElem? hb)
              have hle := nextP_le b.ps
              rw [hok.1] at hle
              have hlt : nextP b.ps < 8 := by simp at h8; omega
              exact ok_set h (ok_page hok hlt (by omega))
      · exact h
  · exact h
theorem ok_new {x : Int} (h : 3 ≤ x ∧ x ≤ 24) : ChOk (newD x) := by
  unfold newD
  rw [if_pos h]
  refine ⟨by simp; omega, by simp; omega, fun b hb => ?_⟩
  rw [List.mem_replicate] at hb
  rw [hb.2]
  refine ⟨rfl, by decide, by decide, fun i p hp => ?_⟩
  have hp' : (List.replicate 8 (⟨false, []⟩ : PgD))[i]? = some p := hp
  rw [List.getElem?_replicate] at hp'
  split at hp'
  · simp at hp'
    subst hp'
    exact ⟨rfl, by show false = decide (i < 0); simp⟩
  · simp at hp'
end

section
open Go.RowKit
theorem bytes_ne {z y : ByteArray} (h : z ≠ y) : (z.toList == y.toList) = false := by
  rw [beq_eq_false_iff_ne]
  intro e
  rw [Lib.toList_data, Lib.toList_data] at e
  apply h
  rw [← Lib.mk_data z, ← Lib.mk_data y, e]
end
end Go.Proofs.YtoeeblmnogeonaaGreatDoor
