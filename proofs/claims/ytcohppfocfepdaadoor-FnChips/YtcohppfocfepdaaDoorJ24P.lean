/-
  Joined: ChPs, ChUq.
-/
import Derived.Test.YtcohppfocfepdaaDoorJ22P
namespace Go.Proofs.YtcohppfocfepdaaDoor
section
open Go.RowKit
set_option maxRecDepth 100000 in
set_option maxHeartbeats 4000000 in
theorem l10ProgramS (a : Option Addr) (n cap : Nat) (bs : List BkR) (x : Int) (ba : Option Addr) (nb bc : Nat) (w : World) (hnb : nb ≤ 1048576) (ht : CR w a n bs) :
    Calls Tryd.prog 35 #[.agg #[.slice a n cap], .int .i64 x, .slice ba nb bc] w fun e w' => e = .returned (.int .i64 (codeP (chipOkB (bs.map BkR.D)) (bs.map BkR.D) x nb)) ∧ Below w.heap.size w w' := by
  have B0 : Below w.heap.size w (w.alloc (.cells #[.slice a n cap] 26)) := (Below.refl _ w).alloc (Nat.le_refl _) _
  have z0 := Blk.new w 26 #[.slice a n cap]
  by_cases hb : 400 < nb
  · have hbi : (400 : Int) < (nb : Int) := by omega
    have hc : codeP (chipOkB (bs.map BkR.D)) (bs.map BkR.D) x nb = 1 := by unfold codeP; rw [if_pos hb]
    rw [hc]
    have HB : Hid _ := B0
    clear hc z0 ht B0
    go_enter Tryd.func35, Tryd.ntmps35
    go_wp2
    go_ret
    exact ⟨rfl, HB.out⟩
  · have hbi : ¬ (400 : Int) < (nb : Int) := by omega
    have hc : codeP (chipOkB (bs.map BkR.D)) (bs.map BkR.D) x nb = mayD (chipOkB (bs.map BkR.D)) (bs.map BkR.D) x (decide (nextD (bs.map BkR.D) x = 8)) := by unfold codeP; rw [if_neg hb]
    rw [hc]
    have hnx := fun (W : World) (h : CR W a n bs) => nextS a n cap bs x W h
    have hmy := fun (W : World) (h : CR W a n bs) => mayS a n cap bs x (decide (nextD (bs.map BkR.D) x = 8)) W h
    obtain ⟨m, hm⟩ : ∃ m, nextD (bs.map BkR.D) x = m := ⟨_, rfl⟩
    rw [hm] at hnx hmy ⊢
    obtain ⟨u, hu⟩ : ∃ u, decide (m = 8) = u := ⟨_, rfl⟩
    have hmu : (m == 8) = u := by rw [← hu]; cases h : decide (m = 8) <;> simp_all
    rw [hu] at hmy ⊢
    obtain ⟨c, hcc⟩ : ∃ c, mayD (chipOkB (bs.map BkR.D)) (bs.map BkR.D) x u = c := ⟨_, rfl⟩
    rw [hcc] at hmy ⊢
    have HNX : Hid _ := hnx
    have HMY : Hid _ := hmy
    have HT : Hid (CR (w.alloc (.cells #[.slice a n cap] 26)) a n bs) := ht.keep B0
    clear hc hnx hmy hm hu hcc ht
    go_enter Tryd.func35, Tryd.ntmps35
    go_upto_region 3 with fail
    obtain ⟨W0, hW0⟩ : ∃ W, w.alloc (.cells #[.slice a n cap] 26) = W := ⟨_, rfl⟩
    rw [hW0] at B0 z0 HT ⊢
    clear hW0
    obtain ⟨H, hH⟩ : ∃ H, w.heap.size = H := ⟨_, rfl⟩
    rw [hH] at z0
    have HB : Hid (Below w.heap.size w W0) := B0
    try rw [hH]
    have zd : Blk W0.drew H 26 #[.slice a n cap] := Blk.keep z0 (Below.refl _ _).drew
    have x0 := zd.cell 0
    simp at x0
    have hcN := HNX.out W0.drew (HT.out.keep (Below.refl _ _).drew)
    have HZ : Hid (Blk W0.drew H 26 #[.slice a n cap]) := zd
    clear zd z0 B0
    refine wp_region_noPanic ?_
    refine wp_region_last (fun W : World => W.cell? ⟨H, 0, none⟩ = some (.slice a n cap)) 7 (by kernel_rfl) (by kernel_rfl) (by go_keep) 7 (by kernel_rfl) (fun hS => ?_)
    refine wpAnyH_take (i := 0) (v := ?gv1) rfl (by kernel_rfl) (by kernel_rfl) (by kernel_rfl) (fun _ _ _ h => h) (Or.inl ⟨by kernel_rfl, ?gy1⟩) (by assumption) ?gr1
    case gy1 => (intro w' hSw; (try dsimp only at hSw); go_simp; (try with_reducible rfl))
    try simp only [Act.put, List.setIfInBounds_toArray, List.set_cons_zero, List.set_cons_succ, List.getElem_toArray, List.getElem_cons_zero]
    refine wpAnyH_take (i := 1) (v := ?gv2) rfl (by kernel_rfl) (by kernel_rfl) (by kernel_rfl) (fun _ _ _ h => h) (Or.inl ⟨by kernel_rfl, ?gy2⟩) (by assumption) ?gr2
    case gy2 => (intro w' hSw; (try dsimp only at hSw); go_simp; (try with_reducible rfl))
    try simp only [Act.put, List.setIfInBounds_toArray, List.set_cons_zero, List.set_cons_succ, List.getElem_toArray, List.getElem_cons_succ, List.getElem_cons_zero]
    refine wpAnyH_take (i := 2) (v := ?gv3) rfl (by kernel_rfl) (by kernel_rfl) (by kernel_rfl) (fun _ _ _ h => h) (Or.inl ⟨by kernel_rfl, ?gy3⟩) (by assumption) ?gr3
    case gy3 => (intro w' hSw; (try dsimp only at hSw); go_simp; (try with_reducible rfl))
    try simp only [Act.put, List.setIfInBounds_toArray, List.set_cons_zero, List.set_cons_succ, List.getElem_toArray, List.getElem_cons_succ, List.getElem_cons_zero]
    refine wpAnyH_take (i := 3) (v := ?gv4) rfl (by kernel_rfl) (by kernel_rfl) (by kernel_rfl) (fun _ _ _ h => h) (Or.inl ⟨by kernel_rfl, ?gy4⟩) (by assumption) ?gr4
    case gy4 => (intro w' hSw; (try dsimp only at hSw); go_simp; (try with_reducible rfl))
    try simp only [Act.put, List.setIfInBounds_toArray, List.set_cons_zero, List.set_cons_succ, List.getElem_toArray, List.getElem_cons_succ, List.getElem_cons_zero]
    refine wpAnyH_ready (rs := [4]) (by kernel_rfl) (by simp) ?_
    refine AllReadyH.cons rfl (fun K hK => ?_) AllReadyH.nil
    go_simp
    (with_reducible refine hcN.mono ?_)
    rintro e W1 ⟨rfl, b1⟩
    have HX1 : Hid (W1.cell? ⟨H, 0, none⟩ = some (.slice a n cap)) := (by have := (Blk.keep HZ.out b1).cell 0; simp at this; exact this)
    have hcM := HMY.out W1 ((HT.out.keep (Below.refl _ _).drew).keep b1)
    clear hS
    try dsimp only
    refine Shut.out hK _ _ (HX1.out) (fun hS => ?_)
    try simp only [Act.put, List.setIfInBounds_toArray, List.set_cons_zero, List.set_cons_succ, List.getElem_toArray, List.getElem_cons_succ, List.getElem_cons_zero]
    refine wpAnyH_take (i := 5) (v := ?gv5) rfl (by kernel_rfl) (by kernel_rfl) (by kernel_rfl) (fun _ _ _ h => h) (Or.inl ⟨by kernel_rfl, ?gy5⟩) (by assumption) ?gr5
    case gy5 => (intro w' hSw; (try dsimp only at hSw); go_simp; (try with_reducible rfl))
    try simp only [Act.put, List.setIfInBounds_toArray, List.set_cons_zero, List.set_cons_succ, List.getElem_toArray, List.getElem_cons_succ, List.getElem_cons_zero]
    refine wpAnyH_ready (rs := [6]) (by kernel_rfl) (by simp) ?_
    refine AllReadyH.cons rfl (fun K hK => ?_) AllReadyH.nil
    go_simp
    (with_reducible refine hcM.mono ?_)
    rintro e W2 ⟨rfl, b2⟩
    have HX2 : Hid (W2.cell? ⟨H, 0, none⟩ = some (.slice a n cap)) := (by have := ((Blk.keep HZ.out b1).keep b2).cell 0; simp at this; exact this)
    clear hS
    try dsimp only
    refine Shut.out hK _ _ (HX2.out) (fun hS => ?_)
    try simp only [Act.put, List.setIfInBounds_toArray, List.set_cons_zero, List.set_cons_succ, List.getElem_toArray, List.getElem_cons_succ, List.getElem_cons_zero]
    refine wpAnyH_done (by kernel_rfl) ?_ _
    refine wpOp_last rfl (fun K hK => ?_)
    clear hS
    go_simp
    refine Shut.out hK _ _ (NoPanic.normal ?_)
    have bE : Below w.heap.size w W2 := by
      have h1 : Below W0.heap.size W0 W1 := (Below.refl W0.heap.size W0).drew.trans b1
      have h2 := h1.trans (b2.mono h1.size)
      exact HB.out.trans (h2.mono HB.out.size)
    have HBE : Hid _ := bE
    clear bE b1 b2 x0
    go_wp2
    go_ret
    rw [← hH]
    exact ⟨rfl, HBE.out⟩
end

section
open Go.RowKit
theorem NewBs.page {W W1 : World} {B g n c k m nq P : Nat} {qa : Option Addr} {qc : Nat} {zs : List Int} {ds : List BkD} {bs : List BkR} {b : BkR} (h : NewBs W B (.slice (some ⟨g, 0, none⟩) n c) ds bs) (hn : bs.length = n) (hb : bs[k]? = some b) (hba : b.a = some ⟨P, 0, none⟩) (hm : m < b.ps.length) (b1 : Below W.heap.size W W1) (hz : zs.length = nq)
    (hq : RowB W1 (.slice qa nq qc) nq zs) (hqc : nq ≤ qc) (hqn : ∀ j, (Value.slice qa nq qc).ownBlock = some j → W.heap.size ≤ j) :
    NewBs ((W1.setCell ⟨P, m * 2, none⟩ (.bool true)).setCell ⟨P, m * 2 + 1, none⟩ (.slice qa nq qc)) B (.slice (some ⟨g, 0, none⟩) n c) (ds.set k ⟨(b.ps.map PgR.D).set m ⟨true, zs⟩, b.wear, b.bad⟩) (bs.set k ⟨b.a, b.cap, b.ps.set m ⟨true, qa, qc, zs⟩, b.wear, b.bad⟩) := by
  subst hz
  have hr := h.row
  have hgl : g < W.heap.size := h.own.lt g (fpBs_row rfl)
  have hbm : b ∈ bs := List.mem_of_getElem? hb
  obtain ⟨p, hp⟩ : ∃ p, b.ps[m]? = some p := ⟨_, List.getElem?_eq_getElem hm⟩
  have hOP : OwnPs W b.v b.ps := h.own.2 b hbm
  have hbv : b.v = .slice (some ⟨P, 0, none⟩) b.ps.length b.cap := by unfold BkR.v; rw [hba]
  have hnd : (fpPs b.v b.ps).Nodup := flat_nodup' (f := bkK.fp) h.inn.nd hbm
  have hPf : P ∈ fpPs b.v b.ps := fpPs_row (by rw [hbv]; rfl)
  have hPn : P ∉ pgK.fps b.ps := fun hf => (List.nodup_append.1 hnd).2.2 P (by rw [hbv]; simp [Value.ownBlock]) P hf rfl
  have hPl : P < W.heap.size := hOP.lt P hPf
  have hPg : g ≠ P := fun e => hr.1 (List.mem_flatMap.2 ⟨b, hbm, by rw [e]; exact hPf⟩)
  have hset : ∀ j, j ≠ P → ((W1.setCell ⟨P, m * 2, none⟩ (.bool true)).setCell ⟨P, m * 2 + 1, none⟩ (.slice qa zs.length qc)).heap[j]? = W1.heap[j]? := fun j hj => (Below.heap_setCell _ _ _ _ hj).trans (Below.heap_setCell _ _ _ _ hj)
  have hrow1 : OwnE pgE 55 W1 (.slice (some ⟨P, 0, none⟩) b.ps.length b.cap) b.ps.length b.ps := by have := hOP.1.keep b1; rw [hbv] at this; exact this
  have s1 := hrow1.set m 0 p ⟨true, p.a, p.cap, p.zs⟩ (.bool true) hp (by decide) rfl
  have s2 := s1.set m 1 ⟨true, p.a, p.cap, p.zs⟩ ⟨true, qa, qc, zs⟩ (.slice qa zs.length qc) (get_set hp) (by decide) rfl
  rw [List.set_set] at s2
  generalize hW2 : (W1.setCell ⟨P, m * 2, none⟩ (.bool true)).setCell ⟨P, m * 2 + 1, none⟩ (.slice qa zs.length qc) = W2 at hset
  have s3 : OwnE pgE 55 W2 (.slice (some ⟨P, 0, none⟩) b.ps.length b.cap) b.ps.length (b.ps.set m ⟨true, qa, qc, zs⟩) := by rw [← hW2]; exact s2
  have hI : Inn pgK W 0 (b.ps.map PgR.D) b.ps := ⟨rfl, hOP.2, fun _ _ => Nat.zero_le _, (List.nodup_append.1 hnd).2.1⟩
  have hqf : ∀ j ∈ pgK.fp (⟨true, qa, qc, zs⟩ : PgR), W.heap.size ≤ j := fun j hj => hqn j (by simpa [pgK, PgR.v] using hj)
  have hI2 := hI.put (w' := W2) (S := W.heap.size) (q := (⟨true, qa, qc, zs⟩ : PgR)) hp (fun j hj => hI.lt j hj) (Nat.zero_le _)
    (show PgR.own W2 (⟨true, qa, qc, zs⟩ : PgR) from ⟨hq.block fun j hj => hset j (fun e => by subst e; have := hqn j hj; omega), hqc⟩)
    (fun j hj => .inr (hqf j hj)) (show ((Value.slice qa zs.length qc).ownBlock.toList).Nodup by cases (Value.slice qa zs.length qc).ownBlock <;> simp)
    (fun j hj _ => by rw [hset j (fun e => by subst e; exact hPn hj)]; exact b1.block j (hI.lt j hj))
  have hbv2 : BkR.v ⟨b.a, b.cap, b.ps.set m ⟨true, qa, qc, zs⟩, b.wear, b.bad⟩ = .slice (some ⟨P, 0, none⟩) b.ps.length b.cap := by unfold BkR.v; rw [hba, List.length_set]
  have hfb : ∀ j ∈ bkK.fp (⟨b.a, b.cap, b.ps.set m ⟨true, qa, qc, zs⟩, b.wear, b.bad⟩ : BkR), j ∈ bkK.fp b ∨ W.heap.size ≤ j := fun j hj => by
    have hj' : j ∈ fpPs (.slice (some ⟨P, 0, none⟩) b.ps.length b.cap) (b.ps.set m ⟨true, qa, qc, zs⟩) := by rw [← hbv2]; exact hj
    rcases List.mem_append.1 hj' with h1 | h1
    · have : j = P := by simpa [Value.ownBlock] using h1
      subst this
      exact .inl hPf
    · obtain ⟨y, hy, hyf⟩ := List.mem_flatMap.1 h1
      rcases mem_set hy with rfl | ⟨i, _, hyi⟩
      · exact .inr (hqf j hyf)
      · exact .inl (List.mem_append_right _ (List.mem_flatMap.2 ⟨y, List.mem_of_getElem? hyi, hyf⟩))
  have hP2 : P ∉ pgK.fps (b.ps.set m ⟨true, qa, qc, zs⟩) := fun hf => by
    obtain ⟨y, hy, hyf⟩ := List.mem_flatMap.1 hf
    rcases mem_set hy with rfl | ⟨i, _, hyi⟩
    · have := hqf P hyf; omega
    · exact hPn (List.mem_flatMap.2 ⟨y, List.mem_of_getElem? hyi, hyf⟩)
  have hB0 : B ≤ W.heap.size := Nat.le_trans hr.2 (by omega)
  have hin := h.inn.put (w' := W2) (S := W.heap.size) (q := (⟨b.a, b.cap, b.ps.set m ⟨true, qa, qc, zs⟩, b.wear, b.bad⟩ : BkR)) hb (fun j hj => h.inn.lt j hj) hB0
    (by
      show OwnPs W2 (BkR.v ⟨b.a, b.cap, b.ps.set m ⟨true, qa, qc, zs⟩, b.wear, b.bad⟩) (b.ps.set m ⟨true, qa, qc, zs⟩)
      rw [hbv2]
      exact ⟨by rw [List.length_set]; exact s3, hI2.own⟩)
    hfb
    (by
      show (fpPs (BkR.v ⟨b.a, b.cap, b.ps.set m ⟨true, qa, qc, zs⟩, b.wear, b.bad⟩) (b.ps.set m ⟨true, qa, qc, zs⟩)).Nodup
      rw [hbv2]
      refine List.nodup_append.2 ⟨by simp [Value.ownBlock], hI2.nd, fun a ha c hc e => ?_⟩
      subst e
      have : a = P := by simpa [Value.ownBlock] using ha
      subst this
      exact hP2 hc)
    (fun j hj hnj => by rw [hset j (fun e => by subst e; exact hnj hPf)]; exact b1.block j (h.inn.lt j hj))
  have hD : bkK.D (⟨b.a, b.cap, b.ps.set m ⟨true, qa, qc, zs⟩, b.wear, b.bad⟩ : BkR) = ⟨(b.ps.map PgR.D).set m ⟨true, zs⟩, b.wear, b.bad⟩ := by
    show BkD.mk ((b.ps.set m ⟨true, qa, qc, zs⟩).map PgR.D) b.wear b.bad = _
    rw [List.map_set]
    rfl
  rw [hD] at hin
  refine hin.newBs ?_ (Nat.le_refl _) (fun j hj => ?_)
  · rw [List.length_set, hn]
    have h1 : OwnE bkE 34 W2 (.slice (some ⟨g, 0, none⟩) n c) n bs := by
      have := (h.own.1.keep b1)
      rw [hn] at this
      exact this.block fun j hj => by
        simp [Value.ownBlock] at hj
        subst hj
        exact hset _ hPg
    have h2 := bkE.xv_set bs k 0 b ⟨b.a, b.cap, b.ps.set m ⟨true, qa, qc, zs⟩, b.wear, b.bad⟩ (.slice b.a b.ps.length b.cap) hb (by decide) (by
      show [Value.slice b.a (b.ps.set m ⟨true, qa, qc, zs⟩).length b.cap, Value.int .i64 b.wear, Value.bool b.bad] = _
      rw [List.length_set]
      rfl)
    rw [set_same (bkE.xv_at bs k 0 b hb (by decide))] at h2
    unfold OwnE at h1 ⊢
    rw [← h2]
    exact h1
  · simp [Value.ownBlock] at hj
    subst hj
    refine ⟨hr.2, fun hf => ?_⟩
    obtain ⟨x, hx, hxf⟩ := List.mem_flatMap.1 hf
    rcases mem_set hx with rfl | ⟨j, _, hxj⟩
    · rcases hfb g hxf with h1 | h1
      · exact hr.1 (List.mem_flatMap.2 ⟨b, hbm, h1⟩)
      · omega
    · exact hr.1 (List.mem_flatMap.2 ⟨x, List.mem_of_getElem? hxj, hxf⟩)
end
end Go.Proofs.YtcohppfocfepdaaDoor
