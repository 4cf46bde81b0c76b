/-
  Joined: InsR, PutNm, WithI, Text, SameB.
-/
import Derived.Test.YtmfimoccemgoiaaGreatDoorJ32D
import Derived.Lib.Overlaps
import Derived.Laws.BytesString
import Derived.Laws.StructEq
namespace Go.Proofs.YtmfimoccemgoiaaGreatDoor
section
open Go.RowKit
theorem shape_blk {w : World} {b : Nat} {t : TypeId} {vs : Array Value} (h : w.heap[b]? = some (.cells vs t (0, 0))) : w.shape? b = some (t, vs.size) := by simp [World.shape?, h]
theorem frozen_blk {w : World} {b : Nat} {t : TypeId} {vs : Array Value} (h : w.heap[b]? = some (.cells vs t (0, 0))) (k : Nat) : w.frozen? ⟨b, k, none⟩ = false := Blk.frozen (show Blk w b t vs from h) k
theorem gr_dr (w : World) (r : Option Nat) : w.grownBy w.drew r := ⟨rfl, rfl, rfl, Nat.le_refl _, fun _ _ _ => rfl⟩
set_option maxRecDepth 100000 in
set_option maxHeartbeats 4000000 in
theorem insert_endREnt (B g n c vb : Nat) (xs vs : List Value) (w : World) (hs : n ≤ 1048576) (hroom : n + 1 ≤ c) (ho : w.ownsRow B 89 2 (.slice (some ⟨g, 0, none⟩) n c) n xs) (hv : w.heap[vb]? = some (.cells vs.toArray 89 (0, 0))) (hvl : vs.length = 2) (h1v : ∀ u ∈ vs, u.oneCell' = true) :
    Calls Tryz.prog 282 #[.slice (some ⟨g, 0, none⟩) n c, .int .i64 n, .slice (some ⟨vb, 0, none⟩) 1 1] w fun e w' => e = .returned (.slice (some ⟨g, 0, none⟩) (n + 1) c) ∧ w'.ownsRow B 89 2 (.slice (some ⟨g, 0, none⟩) (n + 1) c) (n + 1) (xs ++ vs) ∧ w.grownBy w' (some g) := by
  obtain ⟨ii, hii, zi0, zi1, zi2⟩ := info_parts Tryz.infoEnt
  have hxl := ho.1
  rcases ho.2 with ⟨h0, _⟩ | ⟨g', c', cur, h0, hBg, hh, hnc, hcm, hcs, htk⟩
  · cases h0
  cases h0
  have hsrc : Go.Src Tryz.prog ii.size 65 (.slice (some ⟨vb, 0, none⟩) 1 1) 1 vs w := Go.Src.ofSlice w Tryz.underlying65 ⟨vb, 0, none⟩ 1 1 vs (by rw [hvl, zi1]) (fun j u hj => by rw [Addr.add_lit, Nat.zero_add, cell_of_row w vb j _ _ (0, 0) hv]; simpa using hj) h1v
  have hst := run_storeCells_at Tryz.prog g (n * 2) 89 vs 0 cur w hh (by rw [hvl]; omega) h1v
  obtain ⟨R, hR⟩ : ∃ R, (cur.toList.take (n * 2) ++ vs ++ cur.toList.drop (n * 2 + vs.length)).toArray = R := ⟨_, rfl⟩
  have hrun : ∀ ty, (Builtin.append_ #[65, 65] ty #[.slice (some ⟨g, 0, none⟩) n c, .slice (some ⟨vb, 0, none⟩) 1 1]).run Tryz.prog w = .ok (.slice (some ⟨g, 0, none⟩) (n + 1) c) (w.setRow g R) := fun ty => by
    rw [← hR]
    rcases hsrc.kind with ⟨e', hk⟩ | hk <;> simp [Builtin.append_, run_underlying Tryz.underlying65, sizeOf, typeInfo, hii, zi1, hsrc.len, hroom, zi1 ▸ hsrc.cells, Addr.add_lit, hst]
  have hfin : Hid (w.setRow g R |>.ownsRow B 89 2 (.slice (some ⟨g, 0, none⟩) (n + 1) c) (n + 1) (xs ++ vs)) := by
    refine ⟨by rw [List.length_append, hxl, hvl]; omega, .inr ⟨g, c, R, rfl, hBg, setRow_heap w g cur R _ _ hh, hroom, hcm, ?_, ?_⟩⟩
    · rw [← hR]; simp; omega
    · rw [← hR, htk]
      exact List.take_left' (by rw [List.length_append, hxl, hvl]; omega)
  have hgr : Hid (w.grownBy (w.setRow g R) (some g)) := gr_row w g R
  have hn0 : (0 : Int) ≤ (n : Int) := by omega
  have hnn : (n : Int) ≤ (n : Int) := Int.le_refl _
  have hcn : ¬ c = n := by omega
  clear hst hR hsrc htk hcs hh hv hnc hcm ho
  go_enter Tryz.func282, Tryz.ntmps282
  go_wp2_with (at_builtin; refine Lib.wpList_append_run _ rfl _ _ _ _ rfl _ _ rfl rfl _ _ (hrun _) ?_)
  go_ret
  exact ⟨rfl, hfin.out, hgr.out⟩
set_option maxRecDepth 100000 in
set_option maxHeartbeats 4000000 in
theorem insert_midREnt (B g n c vb k : Nat) (xs vs : List Value) (w : World) (hk : k < n) (hs : n ≤ 1048576) (hroom : n + 1 ≤ c) (ho : w.ownsRow B 89 2 (.slice (some ⟨g, 0, none⟩) n c) n xs) (hv : w.heap[vb]? = some (.cells vs.toArray 89 (0, 0))) (hne : vb ≠ g) (hvl : vs.length = 2) (h1x : ∀ u ∈ xs, u.oneCell' = true) (h1v : ∀ u ∈ vs, u.oneCell' = true) :
    Calls Tryz.prog 282 #[.slice (some ⟨g, 0, none⟩) n c, .int .i64 k, .slice (some ⟨vb, 0, none⟩) 1 1] w fun e w' => e = .returned (.slice (some ⟨g, 0, none⟩) (n + 1) c) ∧ w'.ownsRow B 89 2 (.slice (some ⟨g, 0, none⟩) (n + 1) c) (n + 1) (xs.take (k * 2) ++ vs ++ xs.drop (k * 2)) ∧ w.grownBy w' (some g) := by
  obtain ⟨ii, hii, zi0, zi1, zi2⟩ := info_parts Tryz.infoEnt
  have hxl := ho.1
  rcases ho.2 with ⟨h0, _⟩ | ⟨g', c', cur, h0, hBg, hh, hnc, hcm, hcs, htk⟩
  · cases h0
  cases h0
  have hdl : (xs.drop (k * 2)).length = (n - k) * 2 := by rw [List.length_drop, hxl]; omega
  have hov : ∀ lb cb, (callFunc 290 #[.slice (some ⟨vb, 0, none⟩) 1 1, .slice (some ⟨g, (k + 1) * 2, none⟩) lb cb]).run Tryz.prog w = .ok (.value (.bool false)) w := fun lb cb => by
    rw [run_callFunc_extern Tryz.func290 (by kernel_rfl) (by kernel_rfl) (by kernel_rfl) (e := Extern.SlicesOverlaps.overlaps #[65, 65] #[4]) (by kernel_rfl),
      Lib.run_overlaps_apart w 65 4 89 Tryz.underlying65 2 (fun w => by simp [sizeOf, typeInfo, hii, zi1]) ⟨vb, 0, none⟩ ⟨g, (k + 1) * 2, none⟩ 1 1 lb cb hne 89 89 vs.toArray.size cur.size (shape_blk hv) (shape_blk hh) (by omega) (frozen_blk hv _) (frozen_blk hv _)]
    rfl
  have cx : ∀ j u, xs[j]? = some u → w.cell? ⟨g, j, none⟩ = some u := fun j u hj => by
    rw [cell_of_row w g j _ _ (0, 0) hh]
    rw [← htk, List.getElem?_take] at hj
    split at hj
    · simpa using hj
    · cases hj
  have c1 : ∀ ty dc sc, (Builtin.copy_ #[65, 65] ty #[.slice (some ⟨g, (k + 1) * 2, none⟩) (n + 1 - (k + 1)) dc, .slice (some ⟨g, k * 2, none⟩) (n + 1 - k) sc]).run Tryz.prog w.drew = _ := fun ty dc sc => run_copy6Ent w.drew ty g ((k + 1) * 2) (n + 1 - (k + 1)) dc ⟨g, k * 2, none⟩ (n + 1 - k) sc cur _ (xs.drop (k * 2)) (n - k) hh (by simp only [Nat.min_def]; split <;> omega) hdl (fun j u hj => by
      rw [Addr.add_lit]
      exact cx _ u (by rwa [List.getElem?_drop] at hj)) (by rw [hdl]; omega) (fun u hu => h1x u (List.mem_of_mem_drop hu))
  obtain ⟨R1, hR1⟩ : ∃ R, (cur.toList.take ((k + 1) * 2) ++ xs.drop (k * 2) ++ cur.toList.drop ((k + 1) * 2 + (xs.drop (k * 2)).length)).toArray = R := ⟨_, rfl⟩
  rw [hR1] at c1
  have g1 : (w.drew.setRow g R1).heap[g]? = some (.cells R1 89 (0, 0)) := setRow_heap w.drew g cur R1 _ _ hh
  have hs1 : R1.size = c * 2 := by rw [← hR1]; simp [hxl]; omega
  have v1 : ∀ j u, vs[j]? = some u → (w.drew.setRow g R1).cell? ⟨vb, j, none⟩ = some u := fun j u hj => by
    rw [cell_of_row (w.drew.setRow g R1) vb j vs.toArray 89 (0, 0) ((setRow_other w.drew g vb R1 hne).trans hv)]
    simpa using hj
  obtain ⟨W1, hW1⟩ : ∃ W, w.drew.setRow g R1 = W := ⟨_, rfl⟩
  have gr1 : w.grownBy W1 (some g) := by rw [← hW1]; exact (gr_dr w (some g)).trans (gr_row w.drew g R1)
  rw [hW1] at c1 g1 v1
  have c2 : ∀ ty dc, (Builtin.copy_ #[65, 65] ty #[.slice (some ⟨g, k * 2, none⟩) (n + 1 - k) dc, .slice (some ⟨vb, 0, none⟩) 1 1]).run Tryz.prog W1 = _ := fun ty dc => run_copy6Ent W1 ty g (k * 2) (n + 1 - k) dc ⟨vb, 0, none⟩ 1 1 R1 _ vs 1 g1 (by simp only [Nat.min_def]; split <;> omega) (by omega) (fun j u hj => by rw [Addr.add_lit, Nat.zero_add]; exact v1 j u hj) (by omega) h1v
  obtain ⟨R2, hR2⟩ : ∃ R, (R1.toList.take (k * 2) ++ vs ++ R1.toList.drop (k * 2 + vs.length)).toArray = R := ⟨_, rfl⟩
  rw [hR2] at c2
  have hfin : Hid ((W1.setRow g R2).ownsRow B 89 2 (.slice (some ⟨g, 0, none⟩) (n + 1) c) (n + 1) (xs.take (k * 2) ++ vs ++ xs.drop (k * 2))) := by
    refine ⟨by simp [hxl, hvl]; omega, .inr ⟨g, c, R2, rfl, hBg, setRow_heap W1 g R1 R2 _ _ g1, hroom, hcm, ?_, ?_⟩⟩
    · rw [← hR2]; simp; omega
    · have e1 : R1.toList.take (k * 2) = xs.take (k * 2) := by
        rw [← hR1, ← htk]
        dsimp only
        rw [List.append_assoc, List.take_append_of_le_length (by simp; omega), List.take_take, List.take_take]
        congr 1
        omega
      have e2 : R1.toList.drop (k * 2 + vs.length) = xs.drop (k * 2) ++ cur.toList.drop ((k + 1) * 2 + (xs.drop (k * 2)).length) := by
        rw [← hR1, hvl]
        dsimp only
        rw [List.append_assoc, List.drop_left' (by simp; omega)]
      rw [← hR2, e1, e2]
      dsimp only
      rw [← List.append_assoc, List.take_left' (by simp [hxl, hvl]; omega)]
  have hgr : Hid (w.grownBy (W1.setRow g R2) (some g)) := gr1.trans (gr_row W1 g R2)
  have hn1 : ¬ (k : Int) = (n : Int) := by omega
  have hn2 : ¬ (c : Int) < (n : Int) + 1 := by omega
  have hkn : (k : Int) ≤ (n : Int) := by omega
  have hk0 : (0 : Int) ≤ (k : Int) := by omega
  have hck : ¬ (c = k) := by omega
  have hck1 : ¬ (c = k + 1) := by omega
  have hnk2 : (k : Int) ≤ (n : Int) + 1 := by omega
  have hnc1 : (n : Int) + 1 ≤ (c : Int) := by omega
  have hn01 : (0 : Int) ≤ (n : Int) + 1 := by omega
  have hwn : IntKind.i64.wrap ((n : Int) + 1) = (n : Int) + 1 := by rw [IntKind.wrap_i64]; omega
  have hw1 : IntKind.i64.wrap ((k : Int) + 1) = (k : Int) + 1 := by rw [IntKind.wrap_i64]; omega
  have hw2 : (0 : Int) ≤ (k : Int) + 1 := by omega
  have hw3 : (k : Int) + 1 ≤ (n : Int) + 1 := by omega
  have hw4 : ((k : Int) + 1).toNat = k + 1 := by omega
  have hw5 : ((n : Int) + 1).toNat = n + 1 := by omega
  clear hR1 hs1 g1 v1 hR2 gr1 hW1 cx htk hcs hh hv hnc ho hdl h1x h1v
  unfold maxLen at *
  go_enter Tryz.func282, Tryz.ntmps282
  go_wp2_with (simp only [hov])
  go_region_law (refine step_copy_run rfl _ _ 65 65 rfl (.slice (some ⟨g, (k + 1) * 2, none⟩) (n + 1 - (k + 1)) (c - (k + 1))) (.slice (some ⟨g, k * 2, none⟩) (n + 1 - k) (c - k)) (by simp [Act.eval, Act.put]) (by simp [Act.eval, Act.put]) (c1 _ (c - (k + 1)) (c - k)) ?_)
  all_goals go_wp2_with (at_builtin; refine wpList_copy_run _ rfl _ _ 65 65 rfl _ _ rfl rfl (c2 _ _) ?_)
  all_goals go_ret
  all_goals exact ⟨rfl, hfin.out, hgr.out⟩
end

section
open Go.RowKit
theorem own_rdQ {e : TypeId} {w : World} {a : Option Addr} {c n : Nat} {ps : List VP} (h : OwnQ e w (.slice a n c) n ps) : RdP w a ps := by
  rcases h.cases with ⟨h1, rfl, rfl⟩ | ⟨g, c', h1, ho⟩
  · exact .inl rfl
  · cases h1
    exact ho.rd
theorem pv_dropk (ps : List VP) (k : Nat) (hk : k ≤ ps.length) : (pv ps).drop (k * 2) = pv (ps.drop k) := by
  conv => lhs; rw [← List.take_append_drop k ps, pv_append]
  rw [List.drop_left' (by rw [pv_length, List.length_take]; omega)]
theorem pv_ins (ps : List VP) (p : VP) (k : Nat) (hk : k ≤ ps.length) : (pv ps).take (k * 2) ++ [p.1, p.2] ++ (pv ps).drop (k * 2) = pv (ps.take k ++ p :: ps.drop k) := by
  rw [pv_take, pv_dropk ps k hk, pv_append, List.append_assoc]
  rfl
theorem pv_one {ps : List VP} (h : ∀ p ∈ ps, p.1.oneCell' = true ∧ p.2.oneCell' = true) : ∀ u ∈ pv ps, u.oneCell' = true := fun u hu => by
  unfold pv at hu
  obtain ⟨p, hp, hup⟩ := List.mem_flatMap.1 hu
  simp at hup
  rcases hup with rfl | rfl
  · exact (h p hp).1
  · exact (h p hp).2
set_option maxRecDepth 100000 in
set_option maxHeartbeats 4000000 in
theorem insert_nilEnt (vb : Nat) (vs : List Value) (w : World) (hv : w.heap[vb]? = some (.cells vs.toArray 89 (0, 0))) (hvl : vs.length = 2) (h1v : ∀ u ∈ vs, u.oneCell' = true) :
    Calls Tryz.prog 282 #[.slice none 0 0, .int .i64 0, .slice (some ⟨vb, 0, none⟩) 1 1] w fun e w' => ∃ c, e = .returned (.slice (some ⟨w.heap.size, 0, none⟩) 1 c) ∧ w'.ownsRow 0 89 2 (.slice (some ⟨w.heap.size, 0, none⟩) 1 c) 1 vs ∧ Below w.heap.size w w' := by
  obtain ⟨ii, hii, zi0, zi1, zi2⟩ := info_parts Tryz.infoEnt
  have hsrc : Go.Src Tryz.prog ii.size 65 (.slice (some ⟨vb, 0, none⟩) 1 1) 1 vs w := Go.Src.ofSlice w Tryz.underlying65 ⟨vb, 0, none⟩ 1 1 vs (by rw [hvl, zi1]) (fun j u hj => by rw [Addr.add_lit, Nat.zero_add, cell_of_row w vb j _ _ (0, 0) hv]; simpa using hj) h1v
  have hrun : ∀ ty, (Builtin.append_ #[65, 65] ty #[.slice none 0 0, .slice (some ⟨vb, 0, none⟩) 1 1]).run Tryz.prog w = _ := fun ty => run_append_grow_src w 65 65 ty 89 ii _ Tryz.underlying65 hii zi0 none 0 0 [] (run_firstCells_none w.drew ii.size 0 0 0) (.slice (some ⟨vb, 0, none⟩) 1 1) 1 vs hsrc (by omega) (by omega) (growslice_fits (by omega) (by rw [zi2]; omega))
  have hG := grownCap_ge w (0 + 1) 0 89
  have hG2 := grownCap_le_maxLen w (0 + 1) 0 89 (by unfold maxLen; omega)
  obtain ⟨G, hGG⟩ : ∃ G, grownCap w (0 + 1) 0 89 = G := ⟨_, rfl⟩
  rw [hGG] at hrun hG hG2
  have hfin : Hid (∃ c, Ending.returned (.slice (some ⟨w.heap.size, 0, none⟩) (0 + 1) G) = .returned (.slice (some ⟨w.heap.size, 0, none⟩) 1 c) ∧ (w.drew.alloc (.cells (([] ++ vs).toArray ++ Builtin.zeroCells (Value.agg #[.string ⟨#[]⟩, .int .i64 0]).cells (G - (0 + 1))) 89)).ownsRow 0 89 2 (.slice (some ⟨w.heap.size, 0, none⟩) 1 c) 1 vs ∧ Below w.heap.size w (w.drew.alloc (.cells (([] ++ vs).toArray ++ Builtin.zeroCells (Value.agg #[.string ⟨#[]⟩, .int .i64 0]).cells (G - (0 + 1))) 89))) := by
    refine ⟨G, rfl, ⟨by rw [hvl], .inr ⟨w.heap.size, G, _, rfl, Nat.zero_le _, heap_alloc_new w.drew _, hG, hG2, ?_, ?_⟩⟩, (Below.refl _ w).drew.alloc (Nat.le_refl _) _⟩
    · rw [Array.size_append, zeroCells_size]
      simp [Value.cells, hvl]
      omega
    · rw [Array.toList_append, List.take_left' (by simp [hvl])]
      simp
  clear hG hG2 hsrc hv
  go_enter Tryz.func282, Tryz.ntmps282
  go_wp2_with (at_builtin; refine Lib.wpList_append_run _ rfl _ _ _ _ rfl _ _ rfl rfl _ _ (hrun _) ?_)
  go_ret
  exact hfin.out
/-- One put in, into any row of one's own. -/
theorem insert_rowEnt (v : Value) (n k vb : Nat) (ps : List VP) (p : VP) (w : World) (hs : n ≤ 1000000) (hk : k ≤ n) (ho : OwnQ 89 w v n ps) (hps : ∀ p ∈ ps, p.1.oneCell' = true ∧ p.2.oneCell' = true) (hv : w.heap[vb]? = some (.cells #[p.1, p.2] 89 (0, 0))) (h1 : p.1.oneCell' = true) (h2 : p.2.oneCell' = true) (hne : ∀ g, v.ownBlock = some g → vb ≠ g) :
    Calls Tryz.prog 282 #[v, .int .i64 k, .slice (some ⟨vb, 0, none⟩) 1 1] w fun e w' => ∃ v', e = .returned v' ∧ OwnQ 89 w' v' (n + 1) (ps.take k ++ p :: ps.drop k) ∧ w.grownBy w' v.ownBlock := by
  have hpl : ps.length = n := by have := ho.1; rw [pv_length] at this; omega
  have hone : ∀ u ∈ [p.1, p.2], u.oneCell' = true := fun u hu => by
    simp at hu
    rcases hu with rfl | rfl
    · exact h1
    · exact h2
  have hv' : w.heap[vb]? = some (.cells [p.1, p.2].toArray 89 (0, 0)) := hv
  have hvc : ∀ (j : Nat) u, [p.1, p.2][j]? = some u → w.cell? ⟨vb, j, none⟩ = some u := fun j u hj => by
    rw [cell_of_row w vb j _ _ (0, 0) hv]
    simpa using hj
  have hvb : vb < w.heap.size := (Array.getElem?_eq_some_iff.1 hv).1
  rcases ho.cases with ⟨rfl, rfl, rfl⟩ | ⟨g, c, rfl, hoP⟩
  · obtain rfl : k = 0 := by omega
    refine (insert_nilEnt vb [p.1, p.2] w hv' rfl hone).mono ?_
    rintro e w' ⟨c, rfl, o', b'⟩
    exact ⟨_, rfl, o', Below.gr b' _⟩
  · have hcap : n ≤ c := by
      rcases hoP.2 with ⟨h0, _⟩ | ⟨g', c', cur, h0, _, _, h3, _⟩
      · cases h0
      · cases h0
        exact h3
    rcases Nat.eq_or_lt_of_le hcap with rfl | hlt
    · refine (insert_anyEnt 0 g n vb k (pv ps) [p.1, p.2] w hk (by omega) (Nat.zero_le _) hoP hvc rfl (pv_one hps) hone hvb).mono ?_
      rintro e w' ⟨c', rfl, o', b'⟩
      rw [pv_ins ps p k (by omega)] at o'
      exact ⟨_, rfl, o', Below.gr b' _⟩
    · rcases Nat.lt_or_eq_of_le hk with h | rfl
      · refine (insert_midREnt 0 g n c vb k (pv ps) [p.1, p.2] w h (by omega) (by omega) hoP hv' (hne g rfl) rfl (pv_one hps) hone).mono ?_
        rintro e w' ⟨rfl, o', b'⟩
        rw [pv_ins ps p k (by omega)] at o'
        exact ⟨_, rfl, o', b'⟩
      · refine (insert_endREnt 0 g k c vb (pv ps) [p.1, p.2] w (by omega) (by omega) hoP hv' rfl hone).mono ?_
        rintro e w' ⟨rfl, o', b'⟩
        have hx := pv_ins ps p k (by omega)
        rw [List.take_of_length_le (by rw [pv_length]; omega), List.drop_of_length_le (by rw [pv_length]; omega), List.append_nil] at hx
        rw [hx] at o'
        exact ⟨_, rfl, o', b'⟩
theorem spot_insEnt {es : List (ByteArray × Int)} {z : ByteArray} {u : Int} {k : Nat} (h : SpotEnt es z k) (hno : ∀ e ∈ es, (e.1.toList == z.toList) = false) : es.take k ++ (z, u) :: es.drop k = insBy (fun q => gtS z q.1) es (z, u) := by
  refine (insBy_at h.1 (fun y hy => ?_) ?_).symm
  · obtain ⟨j, hj, rfl⟩ := List.getElem_of_mem hy
    rw [List.getElem_drop]
    rw [List.length_drop] at hj
    have h1 := h.2.2 (k + j) (by omega) (by omega)
    have h2 := hno es[k + j] (List.getElem_mem _)
    unfold gtS
    rw [h1, h2]
    rfl
  · rcases Nat.eq_zero_or_pos k with h0 | h0
    · exact .inl h0
    · have hk := h.1
      refine .inr ⟨es[k - 1], List.getElem?_eq_getElem (by omega), ?_⟩
      have h1 := h.2.1 (k - 1) (by omega) (by omega)
      unfold gtS
      rw [h1]
      rfl
set_option maxRecDepth 100000 in
set_option maxHeartbeats 4000000 in
theorem putNEnt (v : Value) (n : Nat) (es : List (ByteArray × Int)) (z : ByteArray) (u : Int) (w : World) (hs : n ≤ 1000000) (ho : OwnQ 89 w v n (eP es)) (hno : ∀ e ∈ es, (e.1.toList == z.toList) = false)
    (hm : ∀ (i j : Nat) (hi : i < es.length) (hj : j < es.length), i ≤ j → Op.bytesLess es[j].1.toList z.toList = true → Op.bytesLess es[i].1.toList z.toList = true) :
    Calls Tryz.prog 260 #[v, .agg #[.string z, .int .i64 u], .func (.func 210) #[] #[]] w fun e w' => ∃ v', e = .returned v' ∧ OwnQ 89 w' v' (n + 1) (eP (insBy (fun q => gtS z q.1) es (z, u))) ∧ w.grownBy w' v.ownBlock := by
  have hmf : ∀ (fn : Fn) (first cap : Array Value) (w : World), (Instr.makeFunc fn first cap).run Tryz.prog w = .ok (.func fn first cap) w := fun _ _ _ _ => rfl
  have b0 : Below w.heap.size w ((w.alloc (.cells #[.string z, .int .i64 u] 89)).alloc (.cells #[.func (.func 210) #[] #[]] 219)) := ((Below.refl _ w).alloc (Nat.le_refl _) _).alloc (by simp) _
  have zE := (Blk.new w 89 #[.string z, .int .i64 u]).alloc (.cells #[.func (.func 210) #[] #[]] 219)
  have zF := Blk.new (w.alloc (.cells #[.string z, .int .i64 u] 89)) 219 #[.func (.func 210) #[] #[]]
  simp only [World.size_alloc] at zF
  have hl : es.length = n := by have := ho.1; rw [pv_length, eP_length] at this; omega
  have hown : ∀ g, v.ownBlock = some g → g < w.heap.size := fun g hg => (World.ownsRow.lt ho g hg).2
  have HOW : Hid _ := hown
  have hcn := entName_any z u
  obtain ⟨a, cc, rfl⟩ := ownQ_shape ho
  have HO : Hid _ := ho
  have hcS := fun (W : World) (hW : Below w.heap.size w W) (hF : Blk W (w.heap.size + 1) 219 #[.func (.func 210) #[] #[]]) => searchEnt a n cc es z (w.heap.size + 1) W hl (by omega) (RdP.keep (own_rdQ HO.out) hW) hF hm
  have HNO : Hid _ := hno
  have HL : Hid _ := hl
  have hvb : ∀ g, (Value.slice a n cc).ownBlock = some g → g < w.heap.size := HOW.out
  have HB0 : Hid _ := b0
  have HZE : Hid _ := zE
  have HZF : Hid _ := zF
  have k0 := zF.cell 0
  have k1 := zE.cell 0
  have k2 := zE.cell 1
  simp at k0 k1 k2
  clear ho hown hm hno hl zE zF b0
  go_enter Tryz.func260, Tryz.ntmps260
  go_wp2_with fail
  obtain ⟨W0, hW0⟩ : ∃ W, ((w.alloc (.cells #[.string z, .int .i64 u] 89)).alloc (.cells #[.func (.func 210) #[] #[]] 219)) = W := ⟨_, rfl⟩
  rw [hW0] at HB0 HZE HZF ⊢
  clear hW0 k0 k1 k2
  (with_reducible refine (hcn W0).mono ?_)
  rintro e w1 ⟨rfl, b1⟩
  have hB1 := HB0.out.trans (b1.mono HB0.out.size)
  have zE1 := Blk.keep HZE.out b1
  have zF1 := Blk.keep HZF.out b1
  clear b1
  have hc2 := hcS w1 hB1 zF1
  go_wp2_with fail
  (with_reducible refine hc2.mono ?_)
  rintro e w2 ⟨⟨k, fb, rfl, hsp⟩, b2⟩
  have hB2 := hB1.trans (b2.mono hB1.size)
  have zE2 := Blk.keep zE1 b2
  have hk : k ≤ n := by have := hsp.1; rw [HL.out] at this; exact this
  have hB3 := hB2.alloc hB2.size (.cells #[.string z, .int .i64 u] 89)
  have zV := Blk.new w2 89 #[.string z, .int .i64 u]
  have ho3 : OwnQ 89 (w2.alloc (.cells #[.string z, .int .i64 u] 89)) (.slice a n cc) n (eP es) := row_kp HO.out (KpT.below hB3 [89]) (by simp)
  have hsz := hB2.size
  have hcI := insert_rowEnt (.slice a n cc) n k w2.heap.size (eP es) (.string z, .int .i64 u) (w2.alloc (.cells #[.string z, .int .i64 u] 89)) hs hk ho3 (eP_one es) zV rfl rfl (fun g hg => by have := HOW.out g hg; omega)
  rw [show (eP es).take k ++ (Value.string z, Value.int .i64 u) :: (eP es).drop k = eP (insBy (fun q => gtS z q.1) es (z, u)) by rw [eP_take, eP_drop, ← spot_insEnt hsp HNO.out]; simp [eP]] at hcI
  have hg3 : Hid (w.grownBy (w2.alloc (.cells #[.string z, .int .i64 u] 89)) (Value.slice a n cc).ownBlock) := Below.gr hB3 _
  have k1 := zE2.cell 0
  have k2 := zE2.cell 1
  simp at k1 k2
  clear hc2 hcS zE1 zF1 zE2 zV ho3 hB1 hB2 hB3 b2 hsp
  go_wp2_with fail
  (with_reducible refine hcI.mono ?_)
  rintro e w4 ⟨v4, rfl, o4, g4⟩
  have hend : Hid (OwnQ 89 w4 v4 (n + 1) (eP (insBy (fun q => gtS z q.1) es (z, u))) ∧ w.grownBy w4 (Value.slice a n cc).ownBlock) := ⟨o4, gr_tr hg3.out g4⟩
  clear hcI o4 g4 hg3
  go_wp2
  go_ret
  exact ⟨_, rfl, hend.out⟩
end

section
open Go.RowKit
theorem putEnt_small {D : InoD} (h : InoSmall D) (nm : ByteArray) (u : Int) (hn : nm.size ≤ 1048576) (hl : D.ents.length ≤ 100) : InoSmall { D with ents := insBy (fun q => gtS nm q.1) D.ents (nm, u) } := by
  refine ⟨h.data, ?_, h.attrs, fun q hq => ?_, h.attrsz⟩
  · show (insBy _ _ _).length ≤ _
    rw [insBy_len]
    omega
  · rcases insBy_mem.1 hq with rfl | hq
    · exact hn
    · exact h.entsz q hq
set_option maxRecDepth 100000 in
set_option maxHeartbeats 4000000 in
theorem withI (a : Option Addr) (n cap : Nat) (nx : Int) (rs : List InoR) (s : ByteArray) (u : Int) (w : World) (ht : TR w a n rs) (hK : ∀ r ∈ rs, r.D.kind = 1 ∨ r.D.kind = 2) (hwf : ∀ r ∈ rs, (Lit.int .i64 r.D.ino).wf = true) (hwe : ∀ r ∈ rs, ∀ e ∈ r.D.ents, (Lit.int .i64 e.2).wf = true) (hE : ∀ r ∈ rs, r.D.ents.length ≤ 100) (hs : s.size ≤ 4000000) (hps : (strB (parentOf s.data.toList).1).size ≤ 4000000) (D : InoD) (hD : badK 1 (rs.map InoR.D) (strB (parentOf s.data.toList).1) = (D, 0)) (hnz : (strB (parentOf s.data.toList).2.1).size ≤ 1048576) (hno : ∀ e ∈ D.ents, (e.1.toList == (strB (parentOf s.data.toList).2.1).toList) = false) (hmo : ∀ (i j : Nat) (hi : i < D.ents.length) (hj : j < D.ents.length), i ≤ j → Op.bytesLess D.ents[j].1.toList (strB (parentOf s.data.toList).2.1).toList = true → Op.bytesLess D.ents[i].1.toList (strB (parentOf s.data.toList).2.1).toList = true) :
    Calls Tryz.prog 226 #[.agg #[.slice a n cap, .int .i64 nx], .string s, .int .i64 u] w fun e w' => ∃ v, e = .returned v ∧ TabAt w nx (setD (rs.map InoR.D) { D with ents := insBy (fun q => gtS (strB (parentOf s.data.toList).2.1) q.1) D.ents (strB (parentOf s.data.toList).2.1, u) }) v w' := by
  have B0 : Below w.heap.size w ((w.alloc (.cells #[.slice a n cap, .int .i64 nx] 28)).alloc (.cells #[.slice none 0 0, .int .i64 0] 28)) := ((Below.refl _ w).alloc (Nat.le_refl _) _).alloc (by simp) _
  have zT := (Blk.new w 28 #[.slice a n cap, .int .i64 nx]).alloc (.cells #[.slice none 0 0, .int .i64 0] 28)
  have zR := Blk.new (w.alloc (.cells #[.slice a n cap, .int .i64 nx] 28)) 28 #[.slice none 0 0, .int .i64 0]
  simp only [World.size_alloc] at zR
  have hcP := fun W => parentI s W hs
  unfold PaPost at hcP
  obtain ⟨pa, hpa⟩ : ∃ p, strB (parentOf s.data.toList).1 = p := ⟨_, rfl⟩
  obtain ⟨nm, hnm⟩ : ∃ p, strB (parentOf s.data.toList).2.1 = p := ⟨_, rfl⟩
  obtain ⟨pb, hpb⟩ : ∃ p, (parentOf s.data.toList).2.2 = p := ⟨_, rfl⟩
  rw [hpa] at hcP hD hps
  rw [hnm] at hcP hnz hno hmo ⊢
  rw [hpb] at hcP
  have hcF := fun (W : World) (hW : Below w.heap.size w W) => dirI a n cap nx rs pa W (ht.keep hW) hK hwf hwe hps
  have HMEM : Hid _ := @badK_mem 1 (rs.map InoR.D) pa
  rw [hD] at hcF HMEM
  dsimp only at hcF HMEM
  have HDm : Hid (D ∈ rs.map InoR.D) := HMEM.out rfl
  obtain ⟨ds, hds⟩ : ∃ ds, rs.map InoR.D = ds := ⟨_, rfl⟩
  rw [hds]
  have HDS : Hid _ := hds
  obtain ⟨TT, hTT⟩ : ∃ c, setD ds { D with ents := insBy (fun q => gtS nm q.1) D.ents (nm, u) } = c := ⟨_, rfl⟩
  rw [hTT]
  have HTT : Hid _ := hTT
  have HSM : Hid _ := ht.small
  have HLEN : Hid _ := ht.len
  have HNN : Hid _ := ht.n
  have HRD : Hid _ := ht.rd
  have HWF : Hid _ := hwf
  have HEE : Hid _ := hE
  clear hpa hnm hpb hD ht hK hwf hwe hE hds hTT HMEM
  go_enter Tryz.func226, Tryz.ntmps226
  go_wp2_with fail
  obtain ⟨Wz, hWz⟩ : ∃ W, ((w.alloc (.cells #[.slice a n cap, .int .i64 nx] 28)).alloc (.cells #[.slice none 0 0, .int .i64 0] 28)) = W := ⟨_, rfl⟩
  rw [hWz] at B0 zT zR ⊢
  clear hWz
  (with_reducible refine (hcP Wz).mono ?_)
  rintro e w1 ⟨b1, rfl⟩
  have zt1 := zT.keep b1
  have zr1 := zR.keep b1
  have hb1 := B0.trans (b1.mono B0.size)
  have t0 := zt1.cell 0
  have t1 := zt1.cell 1
  simp at t0 t1
  clear zT zR B0 b1 hcP
  go_wp2_with fail
  (with_reducible refine (hcF w1 hb1).mono ?_)
  rintro e w2 ⟨b1, d1, b2, d2, b3, d3, rfl, g2, bb2⟩
  rw [errV_zero]
  have zt := (zt1.keep bb2).alloc (.cells #[.int .i64 D.ino, .int .i64 D.kind, .int .i64 D.links, .slice b1 D.data.length d1, .slice b2 D.ents.length d2, .slice b3 D.attrs.length d3] 68)
  have zr := (zr1.keep bb2).alloc (.cells #[.int .i64 D.ino, .int .i64 D.kind, .int .i64 D.links, .slice b1 D.data.length d1, .slice b2 D.ents.length d2, .slice b3 D.attrs.length d3] 68)
  have hb2 := hb1.trans (bb2.mono hb1.size)
  have hb3 := hb2.alloc hb2.size (.cells #[.int .i64 D.ino, .int .i64 D.kind, .int .i64 D.links, .slice b1 D.data.length d1, .slice b2 D.ents.length d2, .slice b3 D.attrs.length d3] 68)
  have hbA : Below w2.heap.size w2 (w2.alloc (.cells #[.int .i64 D.ino, .int .i64 D.kind, .int .i64 D.links, .slice b1 D.data.length d1, .slice b2 D.ents.length d2, .slice b3 D.attrs.length d3] 68)) := (Below.refl _ w2).alloc (Nat.le_refl _) _
  have zX := Blk.new w2 68 #[.int .i64 D.ino, .int .i64 D.kind, .int .i64 D.links, .slice b1 D.data.length d1, .slice b2 D.ents.length d2, .slice b3 D.attrs.length d3]
  have g3 := g2.keep (Nat.le_refl _) hbA
  have hsR : w.heap.size + 1 < w2.heap.size := (zr1.keep bb2).lt
  have HBZ : Hid (w.heap.size ≤ w1.heap.size) := hb1.size
  obtain ⟨X, hX⟩ : ∃ X, w2.heap.size = X := ⟨_, rfl⟩
  obtain ⟨W3, hW3⟩ : ∃ W, w2.alloc (.cells #[.int .i64 D.ino, .int .i64 D.kind, .int .i64 D.links, .slice b1 D.data.length d1, .slice b2 D.ents.length d2, .slice b3 D.attrs.length d3] 68) = W := ⟨_, rfl⟩
  rw [hW3] at zt zr hb3 zX g3
  rw [hX] at zX g3 hsR
  have HZT : Hid _ := zt
  have HZR : Hid _ := zr
  have HB3 : Hid _ := hb3
  have HG3 : Hid _ := g3
  have HZX : Hid _ := zX
  obtain ⟨x0, x1, x2, x3, x4, x5⟩ := zX.six
  have fx := zX.frozen 4
  obtain ⟨rD, hrD, hrDD⟩ : ∃ r ∈ rs, r.D = D := by
    have := HDm.out
    obtain ⟨r, hr, h⟩ := List.mem_map.1 this
    exact ⟨r, hr, h⟩
  have HSD : Hid (InoSmall D) := hrDD ▸ HSM.out rD hrD
  have HWD : Hid ((Lit.int .i64 D.ino).wf = true) := hrDD ▸ HWF.out rD hrD
  have hel0 : D.ents.length ≤ 100 := hrDD ▸ HEE.out rD hrD
  have hcZ := putNEnt (.slice b2 D.ents.length d2) D.ents.length D.ents nm u W3 (by omega) HG3.out.ents hno hmo
  clear hcF zt1 zr1 g2 bb2 hb2 hbA hb1 zt zr hb3 g3 zX hrD hrDD t0 t1
  go_wp2_with fail
  (with_reducible refine hcZ.mono ?_)
  rintro e w4 ⟨v4, rfl, o4, g4⟩
  obtain ⟨a4, c4, rfl⟩ := ownQ_shape o4
  have zt4 := Blk.rowQ HZT.out (by decide) HG3.out.ents g4
  have zr4 := Blk.rowQ HZR.out (by decide) HG3.out.ents g4
  have zX4 := Blk.rowQ HZX.out (by decide) HG3.out.ents g4
  have hk4 : KpT W3 w4 [5, 75] := KpT.row g4 HG3.out.ents (by decide)
  have hb4 : Below w.heap.size w w4 := HB3.out.grown g4 HB3.out.size (fun m hm => by have h1 := HG3.out.within m (.inr (.inl hm)); have h2 := HBZ.out; omega)
  obtain ⟨es', hes'⟩ : ∃ l, insBy (fun q => gtS nm q.1) D.ents (nm, u) = l := ⟨_, rfl⟩
  have hel : D.ents.length + 1 = es'.length := by rw [← hes', insBy_len]
  have hsx : InoSmall { D with ents := es' } := by rw [← hes']; exact putEnt_small HSD.out nm u hnz hel0
  rw [hes', hel] at o4
  rw [hes'] at HTT
  rw [hel]
  obtain ⟨m4, hm4⟩ : ∃ k, es'.length = k := ⟨_, rfl⟩
  rw [hm4] at o4 ⊢
  have zX5 := zX4.set 4 (.slice a4 m4 c4)
  have zt5 := zt4.other (B' := X) (by omega) 4 (.slice a4 m4 c4)
  have zr5 := zr4.other (B' := X) (by omega) 4 (.slice a4 m4 c4)
  have hk5 : KpT w4 (w4.setCell ⟨X, 4, none⟩ (.slice a4 m4 c4)) [5, 75, 89] := KpT.grown (gr_setC w4 X 4 _) zX4 (by decide)
  have o5 : OwnQ 89 (w4.setCell ⟨X, 4, none⟩ (.slice a4 m4 c4)) (.slice a4 m4 c4) m4 (eP es') := row_kp o4 hk5 (by decide)
  have g5 := inoG_ents HG3.out (hk4.tr (fun B cur t fr h1 h2 => hk5 B cur t fr h1 (List.mem_append_left [89] h2))) o5
  have hb5 := hb4.setCell (p := ⟨X, 4, none⟩) (show w.heap.size ≤ X by omega) (.slice a4 m4 c4)
  have fx4 := zX4.frozen 4
  have xx4 := zX4.cell 4
  simp at xx4
  obtain ⟨W5, hW5⟩ : ∃ W, w4.setCell ⟨X, 4, none⟩ (.slice a4 m4 c4) = W := ⟨_, rfl⟩
  rw [hW5] at zX5 zt5 zr5 g5 hb5
  have hrd5 : InoRd W5 { D with ents := es' } b1 a4 b3 := InoG.rds (B := 0) (T := W5.heap.size) (c1 := d1) (c2 := c4) (c3 := d3) (by show InoG W5 0 W5.heap.size _ (.slice b1 D.data.length d1) (.slice a4 es'.length c4) (.slice b3 D.attrs.length d3); rw [hm4]; exact g5)
  have hcI := setI a n cap nx rs { D with ents := es' } b1 a4 b3 d1 c4 d3 W5 HLEN.out HNN.out HWD.out HWF.out HSM.out hsx (RdI.keep HRD.out hb5) hrd5
  dsimp only at hcI
  rw [hm4] at hcI
  obtain ⟨x0, x1, x2, x3, x4, x5⟩ := zX5.six
  have t0 := zt5.cell 0
  have t1 := zt5.cell 1
  simp at t0 t1
  have HZR5 : Hid _ := zr5
  have HB5 : Hid _ := hb5
  have HHM : Hid _ := hm4
  clear hcZ o4 g4 hk4 hk5 o5 g5 hb4 hb5 hrd5 hsx zt4 zr4 zt5 zr5 zX5 hel hes' hm4
  go_wp2_with fail
  (with_reducible refine hcI.mono ?_)
  intro e w6 hp6
  obtain ⟨v6, rfl, ht6⟩ := hp6.tab
  rw [setD_eq, HDS.out] at ht6
  dsimp only at ht6
  rw [HTT.out] at ht6
  have ht6' := ht6
  obtain ⟨ra, rc, js, rfl, hq6, b6⟩ := ht6'
  obtain ⟨rn, hrn⟩ : ∃ rn, js.length = rn := ⟨_, rfl⟩
  rw [hrn] at hq6 ⊢
  have zr6 := Blk.keep HZR5.out b6
  have HFIN : Hid (TabAt w nx TT (.agg #[.slice ra rn rc, .int .i64 nx]) ((w6.setCell ⟨w.heap.size + 1, 0, none⟩ (.slice ra rn rc)).setCell ⟨w.heap.size + 1, 1, none⟩ (.int .i64 nx))) := by
    have h1 := hq6.boxed (HB5.out.trans (b6.mono HB5.out.size)) (show w.heap.size ≤ w.heap.size + 1 by omega) (Blk.lt HZR5.out) (.slice ra rn rc) (.int .i64 nx)
    refine ⟨ra, rc, js, by rw [hrn], ?_, h1.2⟩
    rw [hrn]
    exact h1.1
  have r0 := zr6.cell 0
  have r1 := zr6.cell 1
  have f0 := zr6.frozen 0
  have f1 := zr6.frozen 1
  simp at r0 r1
  have zf := blk2 zr6 (.slice ra rn rc) (.int .i64 nx)
  have dd0 := zf.cell 0
  have dd1 := zf.cell 1
  simp at dd0 dd1
  clear hcI hp6 ht6 zf zr6 b6 x0 x1 x2 x3 x4 x5 t0 t1 hrn hq6
  go_wp2
  refine bodyPost_ret (v := .agg #[.slice ra rn rc, .int .i64 nx]) (by simp [results, Tryz.f226, go_sem, dd0, dd1]) rfl ?_
  exact ⟨_, rfl, HFIN.out⟩
end

section
open Go.RowKit
def str (l : List Int) : ByteArray := l.foldl (fun r n => r.push (UInt8.ofNat n.toNat)) ByteArray.empty
def gtOf (zs : List Int) (r : Nat × Nat × Bool) : ByteArray × Nat × Bool :=
  if r.2.2 = false ∨ zs.length < r.2.1 + r.1 then (ByteArray.empty, 0, false)
  else (str ((zs.drop r.2.1).take r.1), r.2.1 + r.1, true)
theorem conv_at (w : World) (b off n : Nat) (zs : List Int) (nx x : Nat) (hn : zs.length = n) (hx : nx + x ≤ n) (hc : ∀ i, i < zs.length → w.cell? ⟨b, off + i, none⟩ = some (.int .u8 (zs.getD i 0))) (cap : Nat) :
    (convert 37 9 (.slice (some ⟨b, off + nx, none⟩) x cap)).run Tryz.prog w = .ok (.string (str ((zs.drop nx).take x))) w := by
  rw [run_convert_bytes_string w 37 9 5 _ _ _ Tryz.underlying37 Tryz.underlying5 Tryz.underlying9]
  have hl : ((zs.drop nx).take x).length = x := by simp; omega
  have h := run_loadCells_list (P := Tryz.prog) (w := w) ⟨b, off + nx, none⟩ (((zs.drop nx).take x).map (Value.int .u8)) (by
    intro j v hj
    simp only [List.getElem?_map] at hj
    by_cases hjx : j < x
    · have e : (⟨b, off + nx, none⟩ : Addr).add j = ⟨b, off + (nx + j), none⟩ := by simp [Addr.add, Nat.add_assoc]
      rw [e, hc (nx + j) (by omega)]
      rw [List.getElem?_take, if_pos hjx, List.getElem?_drop] at hj
      rw [← hj, List.getElem?_eq_getElem (by omega)]
      simp [List.getElem?_eq_getElem (show nx + j < zs.length by omega)]
    · rw [List.getElem?_take, if_neg hjx] at hj
      simp at hj)
  simp only [List.length_map, hl] at h
  exact run_bytesToString w _ x cap _ h
theorem conv_none (w : World) (a : Addr) (cap : Nat) : (convert 37 9 (.slice (some a) 0 cap)).run Tryz.prog w = .ok (.string ByteArray.empty) w := by
  rw [run_convert_bytes_string w 37 9 5 _ _ _ Tryz.underlying37 Tryz.underlying5 Tryz.underlying9]
  have h := run_loadCells_list (P := Tryz.prog) (w := w) a [] (by intro j v hj; simp at hj)
  exact run_bytesToString w a 0 cap [] h
end

section
open Go.RowKit
theorem conv_any (w : World) (a : Option Addr) (n cap : Nat) (zs : List Int) (hn : zs.length = n) (hr : Rd w a zs) :
    (convert 37 9 (.slice a n cap)).run Tryz.prog w = .ok (.string (str zs)) w := by
  rcases hr with h | ⟨b, off, rfl, hc⟩
  · subst h
    subst hn
    cases a with
    | none =>
      rw [run_convert_bytes_string w 37 9 5 _ _ _ Tryz.underlying37 Tryz.underlying5 Tryz.underlying9]
      simp [Conv.bytesToString, str]
    | some a => exact conv_none w a cap
  · have := conv_at w b off n zs 0 n hn (by omega) hc cap
    rw [Nat.add_zero, List.drop_zero, List.take_of_length_le (by omega)] at this
    exact this
end
end Go.Proofs.YtmfimoccemgoiaaGreatDoor
