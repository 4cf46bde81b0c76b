/-
  What the specification's l6Attr answers: one more, in its place.
-/
import Derived.Test.YtgcmpimckpnemaaA11T
namespace Go.Proofs.Ytgcmpimckpnemaa
open Go.RowKit
set_option maxRecDepth 100000 in
set_option maxHeartbeats 4000000 in
theorem l6AttrS (a : Option Addr) (n cap : Nat) (es : List (ByteArray × ByteArray)) (nm : ByteArray) (y : ByteArray) (w : World) (hn : es.length = n) (hs : n ≤ 100000) (hr : RdP w a (aP es)) :
    Calls Try.prog 156 #[.slice a n cap, .agg #[.string nm, .string y]] w fun e w' => ∃ g c, e = .returned (.slice (some ⟨g, 0, none⟩) (n + 1) c) ∧ w'.ownsRow w.heap.size 70 2 (.slice (some ⟨g, 0, none⟩) (n + 1) c) (n + 1) (pv (aP (insBy (fun q => gtS nm q.1) es (nm, y)))) ∧ Below w.heap.size w w' := by
  have hn' : Hid (es.length = n) := hn
  obtain ⟨i0, hi, hz0, hz1, hz2⟩ := info_parts Try.infoAttr
  have B0 : Below w.heap.size w (w.alloc (.cells #[.string nm, .string y] 70)) := (Below.refl _ w).alloc (Nat.le_refl _) _
  have z0 := Blk.new w 70 #[.string nm, .string y]
  have hr0 := hr.keep B0
  go_enter Try.func156, Try.ntmps156
  go_upto_region 1 with fail
  obtain ⟨W0, hW0⟩ : ∃ W, w.alloc (.cells #[.string nm, .string y] 70) = W := ⟨_, rfl⟩
  have hs0 : W0.heap.size = w.heap.size + 1 := by rw [← hW0]; simp
  rw [hW0] at B0 z0 hr0 ⊢
  clear hW0 hr hn
  have t0 := z0.cell 0
  have t1 := z0.cell 1
  simp at t0 t1
  have hwb : w.heap.size ≤ W0.heap.size := by omega
  have hwl : w.heap.size < W0.heap.size := by omega
  clear hs0
  have bE := (Below.refl W0.heap.size W0).alloc (Nat.le_refl _) (.cells #[] 70)
  have bP := (Below.refl W0.heap.size W0).alloc (Nat.le_refl _) (.cells #[.string nm, .string y] 70)
  have bEP := bE.alloc bE.size (.cells #[.string nm, .string y] 70)
  have bPE := bP.alloc bP.size (.cells #[] 70)
  have oE := empty_row W0 W0.heap.size 70 2 (Nat.le_refl _)
  have oEP := World.ownsRow.alloc oE (.cells #[.string nm, .string y] 70)
  have oPE := empty_row (W0.alloc (.cells #[.string nm, .string y] 70)) W0.heap.size 70 2 (by simp)
  simp only [World.size_alloc] at oPE
  have zEP := Blk.new (W0.alloc (.cells #[] 70)) 70 #[.string nm, .string y]
  have zPE := (Blk.new W0 70 #[.string nm, .string y]).alloc (.cells #[] 70)
  simp only [World.size_alloc] at zEP
  have f1 := fresh_pairs (W0.alloc (.cells #[] 70)).drew W0.heap.size W0.heap.size 28 70 i0 (.agg #[.string ⟨#[]⟩, .string ⟨#[]⟩]) 32 Try.underlying28 hi hz0 hz1 hz2 rfl (by omega) a n cap (aP es) (by rw [aP_length, hn'.out]) (by omega) (aP_one es) (Nat.le_refl _) oE (hr0.keep bE.drew)
  have f2 := fresh_pairs ((W0.alloc (.cells #[] 70)).alloc (.cells #[.string nm, .string y] 70)).drew W0.heap.size W0.heap.size 28 70 i0 (.agg #[.string ⟨#[]⟩, .string ⟨#[]⟩]) 32 Try.underlying28 hi hz0 hz1 hz2 rfl (by omega) a n cap (aP es) (by rw [aP_length, hn'.out]) (by omega) (aP_one es) (Nat.le_refl _) oEP (hr0.keep bEP.drew)
  have f3 := fresh_pairs ((W0.alloc (.cells #[.string nm, .string y] 70)).alloc (.cells #[] 70)).drew W0.heap.size (W0.heap.size + 1) 28 70 i0 (.agg #[.string ⟨#[]⟩, .string ⟨#[]⟩]) 32 Try.underlying28 hi hz0 hz1 hz2 rfl (by omega) a n cap (aP es) (by rw [aP_length, hn'.out]) (by omega) (aP_one es) (by omega) oPE (hr0.keep bPE.drew)
  have hap := fun (W : World) (hB : W0.heap.size ≤ W.heap.size) (g c : Nat) (ho : W.ownsRow W0.heap.size 70 2 (.slice (some ⟨g, 0, none⟩) n c) n (pv (aP es))) (ad : Nat) (zz : Blk W ad 70 #[.string nm, .string y]) => app_pair W W0.heap.size 28 70 i0 (.agg #[.string ⟨#[]⟩, .string ⟨#[]⟩]) 32 Try.underlying28 hi hz0 hz1 hz2 rfl (by omega) g n c (aP es) ho (by omega) ad (.string nm, .string y) (zz.cell 0) (zz.cell 1) rfl rfl hB
  have HAP : Hid _ := hap
  clear hap oE oEP oPE hr0
  go_cut [5] (fun s wx => ∃ g c, s = .slice (some ⟨g, 0, none⟩) (n + 1) c ∧ wx.ownsRow W0.heap.size 70 2 (.slice (some ⟨g, 0, none⟩) (n + 1) c) (n + 1) (pv (aP (es ++ [(nm, y)]))) ∧ Below W0.heap.size W0 wx)
  case first =>
    go_region_held3 (fun W : World => W.cell? ⟨w.heap.size, 0, none⟩ = some (.string nm) ∧ W.cell? ⟨w.heap.size, 1, none⟩ = some (.string y)) (go_keep) (first
      | (refine step_fresh (W0.alloc (.cells #[] 70)).drew rfl (.tmp 7) (.tmp 8) 28 rfl W0.heap.size W0.heap.size a n cap 70 2 (pv (aP es)) rfl rfl f1 ?_; intro g1 c1 V1 o1 hg1 hl1 bF1; have bV : Below W0.heap.size W0 V1 := bE.drew.trans (bF1.mono bE.size); have q0 := (z0.keep bV).cell 0; have q1 := (z0.keep bV).cell 1; simp at q0 q1; have oN := World.ownsRow.alloc o1 (.cells #[.string nm, .string y] 70); have zN := Blk.new V1 70 #[.string nm, .string y]; have bN := bV.alloc bV.size (.cells #[.string nm, .string y] 70); have rN := (z0.keep bN).cell 0; have rN1 := (z0.keep bN).cell 1; simp at rN rN1)
      | (refine step_fresh ((W0.alloc (.cells #[] 70)).alloc (.cells #[.string nm, .string y] 70)).drew rfl (.tmp 7) (.tmp 8) 28 rfl W0.heap.size W0.heap.size a n cap 70 2 (pv (aP es)) rfl rfl f2 ?_; intro g1 c1 V2 o1 hg1 hl1 bF2; have bN : Below W0.heap.size W0 V2 := bEP.drew.trans (bF2.mono bEP.size); have q0 := (z0.keep bN).cell 0; have q1 := (z0.keep bN).cell 1; simp at q0 q1; have oN := o1; have zN := Blk.keep (Blk.drew zEP) bF2)
      | (refine step_fresh ((W0.alloc (.cells #[.string nm, .string y] 70)).alloc (.cells #[] 70)).drew rfl (.tmp 7) (.tmp 8) 28 rfl W0.heap.size (W0.heap.size + 1) a n cap 70 2 (pv (aP es)) rfl rfl f3 ?_; intro g1 c1 V3 o1 hg1 hl1 bF3; have bN : Below W0.heap.size W0 V3 := bPE.drew.trans (bF3.mono bPE.size); have q0 := (z0.keep bN).cell 0; have q1 := (z0.keep bN).cell 1; simp at q0 q1; have oN := o1; have zN := Blk.keep (Blk.drew zPE) bF3)
      | (refine step_run (V1.alloc (.cells #[.string nm, .string y] 70)) (by rfl) (.tmp 9) (.tmp 11) 28 (by rfl) (.slice (some ⟨g1, 0, none⟩) n c1) (.slice (some ⟨V1.heap.size, 0, none⟩) 1 1) (by first | rfl | simp [Act.eval, Act.put]) (by first | rfl | simp [Act.eval, Act.put]) _ (HAP.out _ bN.size g1 c1 oN V1.heap.size zN) ?_; rintro v5 V5 ⟨g5, c5, rfl, o5, hg5, hat5⟩; have hb5 := bN.grown hg5 bN.size (fun m hm => by simp at hm; have := (World.ownsRow.lt oN g1 rfl).1; omega); have q5 := (z0.keep hb5).cell 0; have q6 := (z0.keep hb5).cell 1; simp at q5 q6)
      | (refine step_run V2 (by rfl) (.tmp 9) (.tmp 11) 28 (by rfl) (.slice (some ⟨g1, 0, none⟩) n c1) (.slice (some ⟨W0.heap.size + 1, 0, none⟩) 1 1) (by first | rfl | simp [Act.eval, Act.put]) (by first | rfl | simp [Act.eval, Act.put]) _ (HAP.out _ bN.size g1 c1 oN (W0.heap.size + 1) zN) ?_; rintro v5 V5 ⟨g5, c5, rfl, o5, hg5, hat5⟩; have hb5 := bN.grown hg5 bN.size (fun m hm => by simp at hm; have := (World.ownsRow.lt oN g1 rfl).1; omega); have q5 := (z0.keep hb5).cell 0; have q6 := (z0.keep hb5).cell 1; simp at q5 q6)
      | (refine step_run V3 (by rfl) (.tmp 9) (.tmp 11) 28 (by rfl) (.slice (some ⟨g1, 0, none⟩) n c1) (.slice (some ⟨W0.heap.size, 0, none⟩) 1 1) (by first | rfl | simp [Act.eval, Act.put]) (by first | rfl | simp [Act.eval, Act.put]) _ (HAP.out _ bN.size g1 c1 oN W0.heap.size zN) ?_; rintro v5 V5 ⟨g5, c5, rfl, o5, hg5, hat5⟩; have hb5 := bN.grown hg5 bN.size (fun m hm => by simp at hm; have := (World.ownsRow.lt oN g1 rfl).1; omega); have q5 := (z0.keep hb5).cell 0; have q6 := (z0.keep hb5).cell 1; simp at q5 q6)
      | fail)
    all_goals (go_wp2_with fail; go_meet)
    all_goals exact ⟨g5, c5, rfl, by rw [aP_snoc]; exact o5, hb5⟩
  case rest =>
    obtain ⟨g, c, rfl, oc, bc⟩ := hcut
    obtain ⟨Wc, hwc⟩ : ∃ W, W = wc := ⟨_, rfl⟩
    subst hwc
    have hgl : W0.heap.size ≤ g := (World.ownsRow.lt oc g rfl).1
    have oc' : Wc.ownsRow W0.heap.size 70 2 (.slice (some ⟨g, 0, none⟩) (n + 1) c) (n + 1) (pv (aP (es.take n ++ (nm, y) :: es.drop n))) := by
      rw [List.take_of_length_le (by rw [hn'.out]; omega), List.drop_of_length_le (by rw [hn'.out]; omega)]
      exact oc
    have HZ : Hid _ := z0
    have HB0 : Hid _ := B0
    clear oc f1 f2 f3 HAP bE bP bEP bPE zEP zPE hi hz0 hz1 hz2 t0 t1 z0 B0
    go_wp2
    go_loopw [6] (fun k wr => ∃ (p : Nat) (u : ByteArray × ByteArray), p ≤ n ∧ k = .int .i64 p ∧ wr.ownsRow W0.heap.size 70 2 (.slice (some ⟨g, 0, none⟩) (n + 1) c) (n + 1) (pv (aP (es.take p ++ u :: es.drop p))) ∧ Below W0.heap.size W0 wr ∧ Hid (∀ q ∈ es.drop p, gtS nm q.1 = true)) (fun k _ => (intOf k).toNat)
    case atStart => exact ⟨n, (nm, y), Nat.le_refl _, by go_num, oc', bc, fun q hq => by rw [List.drop_of_length_le (by rw [hn'.out]; omega)] at hq; simp at hq⟩
    case round =>
      obtain ⟨p, u, hp, rfl, ho, hb, hgt⟩ := hrel
      clear oc' bc
      have hpS : p ≤ es.length := by rw [hn'.out]; exact hp
      have hlen := hole_len u hpS
      have z1 := Blk.keep HZ.out hb
      have t0 := z1.cell 0
      have t1 := z1.cell 1
      simp at t0 t1
      have fin : Hid (∀ W : World, W = (wr.setCell ⟨g, p * 2, none⟩ (.string nm)).setCell ⟨g, p * 2 + 1, none⟩ (.string y) → (p = 0 ∨ ∃ q, es[p - 1]? = some q ∧ gtS nm q.1 = false) → W.ownsRow w.heap.size 70 2 (.slice (some ⟨g, 0, none⟩) (n + 1) c) (n + 1) (pv (aP (insBy (fun q => gtS nm q.1) es (nm, y)))) ∧ Below w.heap.size w W) := by
        intro W hW hc
        subst hW
        have h1 := (World.ownsRow.stored (World.ownsRow.stored ho (p * 2) (.string nm)).1 (p * 2 + 1) (.string y)).1
        have e : ((pv (aP (es.take p ++ u :: es.drop p))).set (p * 2) (.string nm)).set (p * 2 + 1) (.string y) = pv (aP (insBy (fun q => gtS nm q.1) es (nm, y))) := by
          rw [pv_set _ p (.string nm, .string y) (by rw [aP_length, hlen]; omega), insBy_at hpS hgt.out hc, ← hole_end u (nm, y) hpS]
          unfold aP
          rw [List.map_set]
        rw [e] at h1
        have hBw := (hb.setCell (p := ⟨g, p * 2, none⟩) hgl (.string nm)).setCell (p := ⟨g, p * 2 + 1, none⟩) hgl (.string y)
        exact ⟨row_lower h1 hwb, HB0.out.trans (hBw.mono hwb)⟩
      have hpl : p < (aP (es.take p ++ u :: es.drop p)).length := by rw [aP_length, hlen]; omega
      obtain ⟨cv0, cv1⟩ := pv_at (aP (es.take p ++ u :: es.drop p)) p hpl
      have hc0 := World.ownsRow.cellAt ho (p * 2) (by omega)
      have hc1 := World.ownsRow.cellAt ho (p * 2 + 1) (by omega)
      have hf0 := World.ownsRow.frozenAt ho (p * 2)
      have hf1 := World.ownsRow.frozenAt ho (p * 2 + 1)
      rw [cv0] at hc0
      rw [cv1] at hc1
      generalize ((aP (es.take p ++ u :: es.drop p)).getD p (undef, undef)).1 = V0 at hc0
      generalize ((aP (es.take p ++ u :: es.drop p)).getD p (undef, undef)).2 = V1 at hc1
      have hpn1 : (p : Int) < ((n + 1 : Nat) : Int) := by omega
      have hp0' : (0 : Int) ≤ (p : Int) := by omega
      have HLEN : Hid _ := hlen
      have HZ1 : Hid _ := z1
      clear hlen cv0 cv1 hpl z1
      rcases Nat.eq_zero_or_pos p with rfl | hpos
      · have HD : Hid _ := fin.out _ rfl (.inl rfl)
        clear fin ho hb hgt
        go_upto_region 3 with fail
        refine wp_region_noPanic ?_
        refine wp_region_held_drew (S := fun W : World => W.cell? ⟨w.heap.size, 0, none⟩ = some (.string nm) ∧ W.cell? ⟨w.heap.size, 1, none⟩ = some (.string y)) (by kernel_rfl) (by go_keep) (fun hS => ?_)
        refine wpAnyH_take (i := 0) (v := ?gv1) rfl (by kernel_rfl) (by kernel_rfl) (by kernel_rfl) (fun _ _ _ h => h) (Or.inl ⟨by kernel_rfl, ?gy1⟩) (by assumption) ?gr1
        case gy1 => (intro w' hSw; (try dsimp only at hSw); go_simp; (try with_reducible rfl))
        try simp only [Act.put, List.setIfInBounds_toArray, List.set_cons_zero, List.set_cons_succ, List.getElem_toArray, List.getElem_cons_zero]
        refine wpAnyH_take (i := 1) (v := ?gv2) rfl (by kernel_rfl) (by kernel_rfl) (by kernel_rfl) (fun _ _ _ h => h) (Or.inl ⟨by kernel_rfl, ?gy2⟩) (by assumption) ?gr2
        case gy2 => (intro w' hSw; (try dsimp only at hSw); go_simp; (try with_reducible rfl))
        try simp only [Act.put, List.setIfInBounds_toArray, List.set_cons_zero, List.set_cons_succ, List.getElem_toArray, List.getElem_cons_succ, List.getElem_cons_zero]
        refine wpAnyH_take (i := 2) (v := ?gv3) rfl (by kernel_rfl) (by kernel_rfl) (by kernel_rfl) (fun _ _ _ h => h) (Or.inl ⟨by kernel_rfl, ?gy3⟩) (by assumption) ?gr3
        case gy3 => (intro w' hSw; (try dsimp only at hSw); go_simp; (try with_reducible rfl))
        try simp only [Act.put, List.setIfInBounds_toArray, List.set_cons_zero, List.set_cons_succ, List.getElem_toArray, List.getElem_cons_succ, List.getElem_cons_zero]
        refine wpAnyH_take (i := 3) (v := undef) rfl (by kernel_rfl) (by kernel_rfl) (by kernel_rfl) (fun _ _ _ h => h) (Or.inr ⟨by kernel_rfl, rfl⟩) (by assumption) ?_
        try simp only [Act.put, List.setIfInBounds_toArray, List.set_cons_zero, List.set_cons_succ, List.getElem_toArray, List.getElem_cons_succ, List.getElem_cons_zero]
        refine wpAnyH_take (i := 4) (v := undef) rfl (by kernel_rfl) (by kernel_rfl) (by kernel_rfl) (fun _ _ _ h => h) (Or.inr ⟨by kernel_rfl, rfl⟩) (by assumption) ?_
        try simp only [Act.put, List.setIfInBounds_toArray, List.set_cons_zero, List.set_cons_succ, List.getElem_toArray, List.getElem_cons_succ, List.getElem_cons_zero]
        refine wpAnyH_take (i := 5) (v := undef) rfl (by kernel_rfl) (by kernel_rfl) (by kernel_rfl) (fun _ _ _ h => h) (Or.inr ⟨by kernel_rfl, rfl⟩) (by assumption) ?_
        try simp only [Act.put, List.setIfInBounds_toArray, List.set_cons_zero, List.set_cons_succ, List.getElem_toArray, List.getElem_cons_succ, List.getElem_cons_zero]
        refine wpAnyH_take (i := 6) (v := undef) rfl (by kernel_rfl) (by kernel_rfl) (by kernel_rfl) (fun _ _ _ h => h) (Or.inr ⟨by kernel_rfl, rfl⟩) (by assumption) ?_
        try simp only [Act.put, List.setIfInBounds_toArray, List.set_cons_zero, List.set_cons_succ, List.getElem_toArray, List.getElem_cons_succ, List.getElem_cons_zero]
        refine wpAnyH_take (i := 7) (v := undef) rfl (by kernel_rfl) (by kernel_rfl) (by kernel_rfl) (fun _ _ _ h => h) (Or.inr ⟨by kernel_rfl, rfl⟩) (by assumption) ?_
        try simp only [Act.put, List.setIfInBounds_toArray, List.set_cons_zero, List.set_cons_succ, List.getElem_toArray, List.getElem_cons_succ, List.getElem_cons_zero]
        refine wpAnyH_take (i := 8) (v := undef) rfl (by kernel_rfl) (by kernel_rfl) (by kernel_rfl) (fun _ _ _ h => h) (Or.inr ⟨by kernel_rfl, rfl⟩) (by assumption) ?_
        try simp only [Act.put, List.setIfInBounds_toArray, List.set_cons_zero, List.set_cons_succ, List.getElem_toArray, List.getElem_cons_succ, List.getElem_cons_zero]
        refine wpAnyH_take (i := 9) (v := undef) rfl (by kernel_rfl) (by kernel_rfl) (by kernel_rfl) (fun _ _ _ h => h) (Or.inr ⟨by kernel_rfl, rfl⟩) (by assumption) ?_
        try simp only [Act.put, List.setIfInBounds_toArray, List.set_cons_zero, List.set_cons_succ, List.getElem_toArray, List.getElem_cons_succ, List.getElem_cons_zero]
        refine wpAnyH_take (i := 10) (v := undef) rfl (by kernel_rfl) (by kernel_rfl) (by kernel_rfl) (fun _ _ _ h => h) (Or.inr ⟨by kernel_rfl, rfl⟩) (by assumption) ?_
        try simp only [Act.put, List.setIfInBounds_toArray, List.set_cons_zero, List.set_cons_succ, List.getElem_toArray, List.getElem_cons_succ, List.getElem_cons_zero]
        refine wpAnyH_take (i := 11) (v := undef) rfl (by kernel_rfl) (by kernel_rfl) (by kernel_rfl) (fun _ _ _ h => h) (Or.inr ⟨by kernel_rfl, rfl⟩) (by assumption) ?_
        try simp only [Act.put, List.setIfInBounds_toArray, List.set_cons_zero, List.set_cons_succ, List.getElem_toArray, List.getElem_cons_succ, List.getElem_cons_zero]
        refine wpAnyH_take (i := 12) (v := ?gv4) rfl (by kernel_rfl) (by kernel_rfl) (by kernel_rfl) (fun _ _ _ h => h) (Or.inl ⟨by kernel_rfl, ?gy4⟩) (by assumption) ?gr4
        case gy4 => (intro w' hSw; (try dsimp only at hSw); go_simp; (try with_reducible rfl))
        try simp only [Act.put, List.setIfInBounds_toArray, List.set_cons_zero, List.set_cons_succ, List.getElem_toArray, List.getElem_cons_succ, List.getElem_cons_zero]
        refine wpAnyH_done (by kernel_rfl) (NoPanic.normal ?_) _
        go_wp2
        go_ret
        first | exact ⟨_, _, rfl, HD.out.1, HD.out.2.drew⟩ | exact ⟨_, ⟨_, rfl⟩, HD.out.1, HD.out.2.drew⟩
      · obtain ⟨q, rfl⟩ : ∃ q, p = q + 1 := ⟨p - 1, by omega⟩
        have hql : q < es.length := by omega
        obtain ⟨⟨zm, zy⟩, hy⟩ : ∃ z, es[q]? = some z := ⟨_, List.getElem?_eq_getElem hql⟩
        have hcq := hole_left u (Nat.lt_succ_self q) hpS hy
        have hqp : q < (aP (es.take (q + 1) ++ u :: es.drop (q + 1))).length := by rw [aP_length, HLEN.out]; omega
        obtain ⟨dv0, dv1⟩ := pv_at (aP (es.take (q + 1) ++ u :: es.drop (q + 1))) q hqp
        have hge : (aP (es.take (q + 1) ++ u :: es.drop (q + 1))).getD q (undef, undef) = (.string zm, .string zy) := by
          unfold aP
          rw [List.getD_eq_getElem?_getD, List.getElem?_map, hcq]
          rfl
        rw [hge] at dv0 dv1
        have hd0 := World.ownsRow.cellAt ho (q * 2) (by omega)
        have hd1 := World.ownsRow.cellAt ho (q * 2 + 1) (by omega)
        rw [dv0] at hd0
        rw [dv1] at hd1
        dsimp only at hd0 hd1
        have hgt0 : (0 : Int) < ((q + 1 : Nat) : Int) := by omega
        have hqn : (q : Int) < ((n + 1 : Nat) : Int) := by omega
        have hq0 : (0 : Int) ≤ (q : Int) := by omega
        have hsub : (((q + 1 : Nat) : Int) - 1) = (q : Int) := by omega
        have hwk : IntKind.i64.wrap (q : Int) = (q : Int) := wrap_small _ hq0 (by omega)
        have hqn' : (q : Int) < (n : Int) + 1 := by omega
        clear hge dv0 dv1 hcq hqp
        cases hxy : gtS nm zm with
        | true =>
          have hst := (World.ownsRow.stored (World.ownsRow.stored ho ((q + 1) * 2) (.string zm)).1 ((q + 1) * 2 + 1) (.string zy)).1
          have e : ((pv (aP (es.take (q + 1) ++ u :: es.drop (q + 1)))).set ((q + 1) * 2) (.string zm)).set ((q + 1) * 2 + 1) (.string zy) = pv (aP (es.take q ++ (zm, zy) :: es.drop q)) := by
            rw [pv_set _ (q + 1) (.string zm, .string zy) (by rw [aP_length, HLEN.out]; omega), ← hole_step u hy]
            unfold aP
            rw [List.map_set]
          rw [e] at hst
          have hb' := (hb.setCell (p := ⟨g, (q + 1) * 2, none⟩) hgl (.string zm)).setCell (p := ⟨g, (q + 1) * 2 + 1, none⟩) hgl (.string zy)
          have hgt' : Hid (∀ z ∈ es.drop q, gtS nm z.1 = true) := fun z hz => by
            rcases drop_mem hy hz with rfl | hz
            · exact hxy
            · exact hgt.out z hz
          obtain ⟨hA, hB⟩ : Op.bytesLess zm.toList nm.toList = false ∧ (zm.toList == nm.toList) = false := by unfold gtS at hxy; simpa using hxy
          have HST : Hid _ := And.intro hst hb'
          clear fin ho hb hgt e hy hxy hst hb'
          go_upto_region 3 with fail
          refine wp_region_noPanic ?_
          refine wp_region_held_drew (S := fun W : World => W.cell? ⟨w.heap.size, 0, none⟩ = some (.string nm) ∧ W.cell? ⟨w.heap.size, 1, none⟩ = some (.string y) ∧ W.cell? ⟨g, q * 2, none⟩ = some (.string zm)) (by kernel_rfl) (by go_keep) (fun hS => ?_)
          refine wpAnyH_take (i := 0) (v := ?gv5) rfl (by kernel_rfl) (by kernel_rfl) (by kernel_rfl) (fun _ _ _ h => h) (Or.inl ⟨by kernel_rfl, ?gy5⟩) (by assumption) ?gr5
          case gy5 => (intro w' hSw; (try dsimp only at hSw); go_simp; (try with_reducible rfl))
          try simp only [Act.put, List.setIfInBounds_toArray, List.set_cons_zero, List.set_cons_succ, List.getElem_toArray, List.getElem_cons_zero]
          refine wpAnyH_take (i := 1) (v := ?gv6) rfl (by kernel_rfl) (by kernel_rfl) (by kernel_rfl) (fun _ _ _ h => h) (Or.inl ⟨by kernel_rfl, ?gy6⟩) (by assumption) ?gr6
          case gy6 => (intro w' hSw; (try dsimp only at hSw); go_simp; (try with_reducible rfl))
          try simp only [Act.put, List.setIfInBounds_toArray, List.set_cons_zero, List.set_cons_succ, List.getElem_toArray, List.getElem_cons_succ, List.getElem_cons_zero]
          refine wpAnyH_take (i := 2) (v := ?gv7) rfl (by kernel_rfl) (by kernel_rfl) (by kernel_rfl) (fun _ _ _ h => h) (Or.inl ⟨by kernel_rfl, ?gy7⟩) (by assumption) ?gr7
          case gy7 => (intro w' hSw; (try dsimp only at hSw); go_simp; (try with_reducible rfl))
          try simp only [Act.put, List.setIfInBounds_toArray, List.set_cons_zero, List.set_cons_succ, List.getElem_toArray, List.getElem_cons_succ, List.getElem_cons_zero]
          refine wpAnyH_take (i := 3) (v := ?gv8) rfl (by kernel_rfl) (by kernel_rfl) (by kernel_rfl) (fun _ _ _ h => h) (Or.inl ⟨by kernel_rfl, ?gy8⟩) (by assumption) ?gr8
          case gy8 => (intro w' hSw; (try dsimp only at hSw); go_simp; (try with_reducible rfl))
          try simp only [Act.put, List.setIfInBounds_toArray, List.set_cons_zero, List.set_cons_succ, List.getElem_toArray, List.getElem_cons_succ, List.getElem_cons_zero]
          refine wpAnyH_take (i := 4) (v := ?gv9) rfl (by kernel_rfl) (by kernel_rfl) (by kernel_rfl) (fun _ _ _ h => h) (Or.inl ⟨by kernel_rfl, ?gy9⟩) (by assumption) ?gr9
          case gy9 => (intro w' hSw; (try dsimp only at hSw); go_simp; (try with_reducible rfl))
          try simp only [Act.put, List.setIfInBounds_toArray, List.set_cons_zero, List.set_cons_succ, List.getElem_toArray, List.getElem_cons_succ, List.getElem_cons_zero]
          refine wpAnyH_take (i := 5) (v := ?gv10) rfl (by kernel_rfl) (by kernel_rfl) (by kernel_rfl) (fun _ _ _ h => h) (Or.inl ⟨by kernel_rfl, ?gy10⟩) (by assumption) ?gr10
          case gy10 => (intro w' hSw; (try dsimp only at hSw); go_simp; (try with_reducible rfl))
          try simp only [Act.put, List.setIfInBounds_toArray, List.set_cons_zero, List.set_cons_succ, List.getElem_toArray, List.getElem_cons_succ, List.getElem_cons_zero]
          refine wpAnyH_take (i := 6) (v := ?gv11) rfl (by kernel_rfl) (by kernel_rfl) (by kernel_rfl) (fun _ _ _ h => h) (Or.inl ⟨by kernel_rfl, ?gy11⟩) (by assumption) ?gr11
          case gy11 => (intro w' hSw; (try dsimp only at hSw); go_simp; (try with_reducible rfl))
          try simp only [Act.put, List.setIfInBounds_toArray, List.set_cons_zero, List.set_cons_succ, List.getElem_toArray, List.getElem_cons_succ, List.getElem_cons_zero]
          refine wpAnyH_take (i := 7) (v := ?gv12) rfl (by kernel_rfl) (by kernel_rfl) (by kernel_rfl) (fun _ _ _ h => h) (Or.inl ⟨by kernel_rfl, ?gy12⟩) (by assumption) ?gr12
          case gy12 => (intro w' hSw; (try dsimp only at hSw); go_simp; (try with_reducible rfl))
          try simp only [Act.put, List.setIfInBounds_toArray, List.set_cons_zero, List.set_cons_succ, List.getElem_toArray, List.getElem_cons_succ, List.getElem_cons_zero]
          refine wpAnyH_take (i := 8) (v := ?gv13) rfl (by kernel_rfl) (by kernel_rfl) (by kernel_rfl) (fun _ _ _ h => h) (Or.inl ⟨by kernel_rfl, ?gy13⟩) (by assumption) ?gr13
          case gy13 => (intro w' hSw; (try dsimp only at hSw); go_simp; (try with_reducible rfl))
          try simp only [Act.put, List.setIfInBounds_toArray, List.set_cons_zero, List.set_cons_succ, List.getElem_toArray, List.getElem_cons_succ, List.getElem_cons_zero]
          refine wpAnyH_take (i := 9) (v := ?gv14) rfl (by kernel_rfl) (by kernel_rfl) (by kernel_rfl) (fun _ _ _ h => h) (Or.inl ⟨by kernel_rfl, ?gy14⟩) (by assumption) ?gr14
          case gy14 => (intro w' hSw; (try dsimp only at hSw); go_simp; (try with_reducible rfl))
          try simp only [Act.put, List.setIfInBounds_toArray, List.set_cons_zero, List.set_cons_succ, List.getElem_toArray, List.getElem_cons_succ, List.getElem_cons_zero]
          refine wpAnyH_take (i := 10) (v := ?gv15) rfl (by kernel_rfl) (by kernel_rfl) (by kernel_rfl) (fun _ _ _ h => h) (Or.inl ⟨by kernel_rfl, ?gy15⟩) (by assumption) ?gr15
          case gy15 => (intro w' hSw; (try dsimp only at hSw); go_simp; (try with_reducible rfl))
          try simp only [Act.put, List.setIfInBounds_toArray, List.set_cons_zero, List.set_cons_succ, List.getElem_toArray, List.getElem_cons_succ, List.getElem_cons_zero]
          refine wpAnyH_take (i := 11) (v := ?gv16) rfl (by kernel_rfl) (by kernel_rfl) (by kernel_rfl) (fun _ _ _ h => h) (Or.inl ⟨by kernel_rfl, ?gy16⟩) (by assumption) ?gr16
          case gy16 => (intro w' hSw; (try dsimp only at hSw); go_simp; (try with_reducible rfl))
          try simp only [Act.put, List.setIfInBounds_toArray, List.set_cons_zero, List.set_cons_succ, List.getElem_toArray, List.getElem_cons_succ, List.getElem_cons_zero]
          refine wpAnyH_take (i := 12) (v := ?gv17) rfl (by kernel_rfl) (by kernel_rfl) (by kernel_rfl) (fun _ _ _ h => h) (Or.inl ⟨by kernel_rfl, ?gy17⟩) (by assumption) ?gr17
          case gy17 => (intro w' hSw; (try dsimp only at hSw); go_simp; (try with_reducible rfl))
          try simp only [Act.put, List.setIfInBounds_toArray, List.set_cons_zero, List.set_cons_succ, List.getElem_toArray, List.getElem_cons_succ, List.getElem_cons_zero]
          refine wpAnyH_done (by kernel_rfl) (NoPanic.normal ?_) _
          go_wp2
          go_roundw
          all_goals first
            | (case rel => (repeat apply Exists.intro); exact ⟨⟨q, (zm, zy), by omega, by go_num, HST.out.1, HST.out.2.drew, hgt'⟩, rfl⟩)
            | (case rel => exact ⟨q, (zm, zy), by omega, by go_num, HST.out.1, HST.out.2.drew, hgt'⟩)
            | (case measure => simp [intOf])
            | fail
        | false =>
          have HD : Hid _ := fin.out _ rfl (.inr ⟨(zm, zy), by rw [Nat.add_sub_cancel]; exact hy, hxy⟩)
          have hAB : Op.bytesLess zm.toList nm.toList = true ∨ (Op.bytesLess zm.toList nm.toList = false ∧ (zm.toList == nm.toList) = true) := by
            unfold gtS at hxy
            cases h1 : Op.bytesLess zm.toList nm.toList with
            | true => exact .inl rfl
            | false => rw [h1] at hxy; exact .inr ⟨rfl, by simpa using hxy⟩
          clear fin ho hb hgt hy hxy
          rcases hAB with hA | ⟨hA, hB⟩
          · go_upto_region 3 with fail
            refine wp_region_noPanic ?_
            refine wp_region_held_drew (S := fun W : World => W.cell? ⟨w.heap.size, 0, none⟩ = some (.string nm) ∧ W.cell? ⟨w.heap.size, 1, none⟩ = some (.string y) ∧ W.cell? ⟨g, q * 2, none⟩ = some (.string zm)) (by kernel_rfl) (by go_keep) (fun hS => ?_)
            refine wpAnyH_take (i := 0) (v := ?gv18) rfl (by kernel_rfl) (by kernel_rfl) (by kernel_rfl) (fun _ _ _ h => h) (Or.inl ⟨by kernel_rfl, ?gy18⟩) (by assumption) ?gr18
            case gy18 => (intro w' hSw; (try dsimp only at hSw); go_simp; (try with_reducible rfl))
            try simp only [Act.put, List.setIfInBounds_toArray, List.set_cons_zero, List.set_cons_succ, List.getElem_toArray, List.getElem_cons_zero]
            refine wpAnyH_take (i := 1) (v := ?gv19) rfl (by kernel_rfl) (by kernel_rfl) (by kernel_rfl) (fun _ _ _ h => h) (Or.inl ⟨by kernel_rfl, ?gy19⟩) (by assumption) ?gr19
            case gy19 => (intro w' hSw; (try dsimp only at hSw); go_simp; (try with_reducible rfl))
            try simp only [Act.put, List.setIfInBounds_toArray, List.set_cons_zero, List.set_cons_succ, List.getElem_toArray, List.getElem_cons_succ, List.getElem_cons_zero]
            refine wpAnyH_take (i := 2) (v := ?gv20) rfl (by kernel_rfl) (by kernel_rfl) (by kernel_rfl) (fun _ _ _ h => h) (Or.inl ⟨by kernel_rfl, ?gy20⟩) (by assumption) ?gr20
            case gy20 => (intro w' hSw; (try dsimp only at hSw); go_simp; (try with_reducible rfl))
            try simp only [Act.put, List.setIfInBounds_toArray, List.set_cons_zero, List.set_cons_succ, List.getElem_toArray, List.getElem_cons_succ, List.getElem_cons_zero]
            refine wpAnyH_take (i := 3) (v := ?gv21) rfl (by kernel_rfl) (by kernel_rfl) (by kernel_rfl) (fun _ _ _ h => h) (Or.inl ⟨by kernel_rfl, ?gy21⟩) (by assumption) ?gr21
            case gy21 => (intro w' hSw; (try dsimp only at hSw); go_simp; (try with_reducible rfl))
            try simp only [Act.put, List.setIfInBounds_toArray, List.set_cons_zero, List.set_cons_succ, List.getElem_toArray, List.getElem_cons_succ, List.getElem_cons_zero]
            refine wpAnyH_take (i := 4) (v := ?gv22) rfl (by kernel_rfl) (by kernel_rfl) (by kernel_rfl) (fun _ _ _ h => h) (Or.inl ⟨by kernel_rfl, ?gy22⟩) (by assumption) ?gr22
            case gy22 => (intro w' hSw; (try dsimp only at hSw); go_simp; (try with_reducible rfl))
            try simp only [Act.put, List.setIfInBounds_toArray, List.set_cons_zero, List.set_cons_succ, List.getElem_toArray, List.getElem_cons_succ, List.getElem_cons_zero]
            refine wpAnyH_take (i := 5) (v := ?gv23) rfl (by kernel_rfl) (by kernel_rfl) (by kernel_rfl) (fun _ _ _ h => h) (Or.inl ⟨by kernel_rfl, ?gy23⟩) (by assumption) ?gr23
            case gy23 => (intro w' hSw; (try dsimp only at hSw); go_simp; (try with_reducible rfl))
            try simp only [Act.put, List.setIfInBounds_toArray, List.set_cons_zero, List.set_cons_succ, List.getElem_toArray, List.getElem_cons_succ, List.getElem_cons_zero]
            refine wpAnyH_take (i := 6) (v := ?gv24) rfl (by kernel_rfl) (by kernel_rfl) (by kernel_rfl) (fun _ _ _ h => h) (Or.inl ⟨by kernel_rfl, ?gy24⟩) (by assumption) ?gr24
            case gy24 => (intro w' hSw; (try dsimp only at hSw); go_simp; (try with_reducible rfl))
            try simp only [Act.put, List.setIfInBounds_toArray, List.set_cons_zero, List.set_cons_succ, List.getElem_toArray, List.getElem_cons_succ, List.getElem_cons_zero]
            refine wpAnyH_take (i := 7) (v := ?gv25) rfl (by kernel_rfl) (by kernel_rfl) (by kernel_rfl) (fun _ _ _ h => h) (Or.inl ⟨by kernel_rfl, ?gy25⟩) (by assumption) ?gr25
            case gy25 => (intro w' hSw; (try dsimp only at hSw); go_simp; (try with_reducible rfl))
            try simp only [Act.put, List.setIfInBounds_toArray, List.set_cons_zero, List.set_cons_succ, List.getElem_toArray, List.getElem_cons_succ, List.getElem_cons_zero]
            refine wpAnyH_take (i := 8) (v := ?gv26) rfl (by kernel_rfl) (by kernel_rfl) (by kernel_rfl) (fun _ _ _ h => h) (Or.inl ⟨by kernel_rfl, ?gy26⟩) (by assumption) ?gr26
            case gy26 => (intro w' hSw; (try dsimp only at hSw); go_simp; (try with_reducible rfl))
            try simp only [Act.put, List.setIfInBounds_toArray, List.set_cons_zero, List.set_cons_succ, List.getElem_toArray, List.getElem_cons_succ, List.getElem_cons_zero]
            refine wpAnyH_take (i := 9) (v := ?gv27) rfl (by kernel_rfl) (by kernel_rfl) (by kernel_rfl) (fun _ _ _ h => h) (Or.inl ⟨by kernel_rfl, ?gy27⟩) (by assumption) ?gr27
            case gy27 => (intro w' hSw; (try dsimp only at hSw); go_simp; (try with_reducible rfl))
            try simp only [Act.put, List.setIfInBounds_toArray, List.set_cons_zero, List.set_cons_succ, List.getElem_toArray, List.getElem_cons_succ, List.getElem_cons_zero]
            refine wpAnyH_take (i := 10) (v := ?gv28) rfl (by kernel_rfl) (by kernel_rfl) (by kernel_rfl) (fun _ _ _ h => h) (Or.inl ⟨by kernel_rfl, ?gy28⟩) (by assumption) ?gr28
            case gy28 => (intro w' hSw; (try dsimp only at hSw); go_simp; (try with_reducible rfl))
            try simp only [Act.put, List.setIfInBounds_toArray, List.set_cons_zero, List.set_cons_succ, List.getElem_toArray, List.getElem_cons_succ, List.getElem_cons_zero]
            refine wpAnyH_take (i := 11) (v := ?gv29) rfl (by kernel_rfl) (by kernel_rfl) (by kernel_rfl) (fun _ _ _ h => h) (Or.inl ⟨by kernel_rfl, ?gy29⟩) (by assumption) ?gr29
            case gy29 => (intro w' hSw; (try dsimp only at hSw); go_simp; (try with_reducible rfl))
            try simp only [Act.put, List.setIfInBounds_toArray, List.set_cons_zero, List.set_cons_succ, List.getElem_toArray, List.getElem_cons_succ, List.getElem_cons_zero]
            refine wpAnyH_take (i := 12) (v := ?gv30) rfl (by kernel_rfl) (by kernel_rfl) (by kernel_rfl) (fun _ _ _ h => h) (Or.inl ⟨by kernel_rfl, ?gy30⟩) (by assumption) ?gr30
            case gy30 => (intro w' hSw; (try dsimp only at hSw); go_simp; (try with_reducible rfl))
            try simp only [Act.put, List.setIfInBounds_toArray, List.set_cons_zero, List.set_cons_succ, List.getElem_toArray, List.getElem_cons_succ, List.getElem_cons_zero]
            refine wpAnyH_done (by kernel_rfl) (NoPanic.normal ?_) _
            go_wp2
            go_ret
            first | exact ⟨_, _, rfl, HD.out.1, HD.out.2.drew⟩ | exact ⟨_, ⟨_, rfl⟩, HD.out.1, HD.out.2.drew⟩
          · go_upto_region 3 with fail
            refine wp_region_noPanic ?_
            refine wp_region_held_drew (S := fun W : World => W.cell? ⟨w.heap.size, 0, none⟩ = some (.string nm) ∧ W.cell? ⟨w.heap.size, 1, none⟩ = some (.string y) ∧ W.cell? ⟨g, q * 2, none⟩ = some (.string zm)) (by kernel_rfl) (by go_keep) (fun hS => ?_)
            refine wpAnyH_take (i := 0) (v := ?gv31) rfl (by kernel_rfl) (by kernel_rfl) (by kernel_rfl) (fun _ _ _ h => h) (Or.inl ⟨by kernel_rfl, ?gy31⟩) (by assumption) ?gr31
            case gy31 => (intro w' hSw; (try dsimp only at hSw); go_simp; (try with_reducible rfl))
            try simp only [Act.put, List.setIfInBounds_toArray, List.set_cons_zero, List.set_cons_succ, List.getElem_toArray, List.getElem_cons_zero]
            refine wpAnyH_take (i := 1) (v := ?gv32) rfl (by kernel_rfl) (by kernel_rfl) (by kernel_rfl) (fun _ _ _ h => h) (Or.inl ⟨by kernel_rfl, ?gy32⟩) (by assumption) ?gr32
            case gy32 => (intro w' hSw; (try dsimp only at hSw); go_simp; (try with_reducible rfl))
            try simp only [Act.put, List.setIfInBounds_toArray, List.set_cons_zero, List.set_cons_succ, List.getElem_toArray, List.getElem_cons_succ, List.getElem_cons_zero]
            refine wpAnyH_take (i := 2) (v := ?gv33) rfl (by kernel_rfl) (by kernel_rfl) (by kernel_rfl) (fun _ _ _ h => h) (Or.inl ⟨by kernel_rfl, ?gy33⟩) (by assumption) ?gr33
            case gy33 => (intro w' hSw; (try dsimp only at hSw); go_simp; (try with_reducible rfl))
            try simp only [Act.put, List.setIfInBounds_toArray, List.set_cons_zero, List.set_cons_succ, List.getElem_toArray, List.getElem_cons_succ, List.getElem_cons_zero]
            refine wpAnyH_take (i := 3) (v := ?gv34) rfl (by kernel_rfl) (by kernel_rfl) (by kernel_rfl) (fun _ _ _ h => h) (Or.inl ⟨by kernel_rfl, ?gy34⟩) (by assumption) ?gr34
            case gy34 => (intro w' hSw; (try dsimp only at hSw); go_simp; (try with_reducible rfl))
            try simp only [Act.put, List.setIfInBounds_toArray, List.set_cons_zero, List.set_cons_succ, List.getElem_toArray, List.getElem_cons_succ, List.getElem_cons_zero]
            refine wpAnyH_take (i := 4) (v := ?gv35) rfl (by kernel_rfl) (by kernel_rfl) (by kernel_rfl) (fun _ _ _ h => h) (Or.inl ⟨by kernel_rfl, ?gy35⟩) (by assumption) ?gr35
            case gy35 => (intro w' hSw; (try dsimp only at hSw); go_simp; (try with_reducible rfl))
            try simp only [Act.put, List.setIfInBounds_toArray, List.set_cons_zero, List.set_cons_succ, List.getElem_toArray, List.getElem_cons_succ, List.getElem_cons_zero]
            refine wpAnyH_take (i := 5) (v := ?gv36) rfl (by kernel_rfl) (by kernel_rfl) (by kernel_rfl) (fun _ _ _ h => h) (Or.inl ⟨by kernel_rfl, ?gy36⟩) (by assumption) ?gr36
            case gy36 => (intro w' hSw; (try dsimp only at hSw); go_simp; (try with_reducible rfl))
            try simp only [Act.put, List.setIfInBounds_toArray, List.set_cons_zero, List.set_cons_succ, List.getElem_toArray, List.getElem_cons_succ, List.getElem_cons_zero]
            refine wpAnyH_take (i := 6) (v := ?gv37) rfl (by kernel_rfl) (by kernel_rfl) (by kernel_rfl) (fun _ _ _ h => h) (Or.inl ⟨by kernel_rfl, ?gy37⟩) (by assumption) ?gr37
            case gy37 => (intro w' hSw; (try dsimp only at hSw); go_simp; (try with_reducible rfl))
            try simp only [Act.put, List.setIfInBounds_toArray, List.set_cons_zero, List.set_cons_succ, List.getElem_toArray, List.getElem_cons_succ, List.getElem_cons_zero]
            refine wpAnyH_take (i := 7) (v := ?gv38) rfl (by kernel_rfl) (by kernel_rfl) (by kernel_rfl) (fun _ _ _ h => h) (Or.inl ⟨by kernel_rfl, ?gy38⟩) (by assumption) ?gr38
            case gy38 => (intro w' hSw; (try dsimp only at hSw); go_simp; (try with_reducible rfl))
            try simp only [Act.put, List.setIfInBounds_toArray, List.set_cons_zero, List.set_cons_succ, List.getElem_toArray, List.getElem_cons_succ, List.getElem_cons_zero]
            refine wpAnyH_take (i := 8) (v := ?gv39) rfl (by kernel_rfl) (by kernel_rfl) (by kernel_rfl) (fun _ _ _ h => h) (Or.inl ⟨by kernel_rfl, ?gy39⟩) (by assumption) ?gr39
            case gy39 => (intro w' hSw; (try dsimp only at hSw); go_simp; (try with_reducible rfl))
            try simp only [Act.put, List.setIfInBounds_toArray, List.set_cons_zero, List.set_cons_succ, List.getElem_toArray, List.getElem_cons_succ, List.getElem_cons_zero]
            refine wpAnyH_take (i := 9) (v := ?gv40) rfl (by kernel_rfl) (by kernel_rfl) (by kernel_rfl) (fun _ _ _ h => h) (Or.inl ⟨by kernel_rfl, ?gy40⟩) (by assumption) ?gr40
            case gy40 => (intro w' hSw; (try dsimp only at hSw); go_simp; (try with_reducible rfl))
            try simp only [Act.put, List.setIfInBounds_toArray, List.set_cons_zero, List.set_cons_succ, List.getElem_toArray, List.getElem_cons_succ, List.getElem_cons_zero]
            refine wpAnyH_take (i := 10) (v := ?gv41) rfl (by kernel_rfl) (by kernel_rfl) (by kernel_rfl) (fun _ _ _ h => h) (Or.inl ⟨by kernel_rfl, ?gy41⟩) (by assumption) ?gr41
            case gy41 => (intro w' hSw; (try dsimp only at hSw); go_simp; (try with_reducible rfl))
            try simp only [Act.put, List.setIfInBounds_toArray, List.set_cons_zero, List.set_cons_succ, List.getElem_toArray, List.getElem_cons_succ, List.getElem_cons_zero]
            refine wpAnyH_take (i := 11) (v := ?gv42) rfl (by kernel_rfl) (by kernel_rfl) (by kernel_rfl) (fun _ _ _ h => h) (Or.inl ⟨by kernel_rfl, ?gy42⟩) (by assumption) ?gr42
            case gy42 => (intro w' hSw; (try dsimp only at hSw); go_simp; (try with_reducible rfl))
            try simp only [Act.put, List.setIfInBounds_toArray, List.set_cons_zero, List.set_cons_succ, List.getElem_toArray, List.getElem_cons_succ, List.getElem_cons_zero]
            refine wpAnyH_take (i := 12) (v := ?gv43) rfl (by kernel_rfl) (by kernel_rfl) (by kernel_rfl) (fun _ _ _ h => h) (Or.inl ⟨by kernel_rfl, ?gy43⟩) (by assumption) ?gr43
            case gy43 => (intro w' hSw; (try dsimp only at hSw); go_simp; (try with_reducible rfl))
            try simp only [Act.put, List.setIfInBounds_toArray, List.set_cons_zero, List.set_cons_succ, List.getElem_toArray, List.getElem_cons_succ, List.getElem_cons_zero]
            refine wpAnyH_done (by kernel_rfl) (NoPanic.normal ?_) _
            go_wp2
            go_ret
            first | exact ⟨_, _, rfl, HD.out.1, HD.out.2.drew⟩ | exact ⟨_, ⟨_, rfl⟩, HD.out.1, HD.out.2.drew⟩
end Go.Proofs.Ytgcmpimckpnemaa
