/-
  Joined: MarkI, Puts, MarkIno.
-/
import Derived.Test.YtnfplimhhjpbkaaGreatDoorJ04T
import Derived.Deep.DeepCutAuto
import Derived.Lib.AppendStr
namespace Go.Proofs.YtnfplimhhjpbkaaGreatDoor
section
open Go.RowKit
set_option maxHeartbeats 1000000 in
set_option maxRecDepth 100000 in
theorem markText_big (k : Nat) (w : World) (hk : k ≤ 9999999) (h1 : 1 ≤ k) :
    Calls Tryz.prog 199 #[.int .i64 k] w fun e w' => e = .returned (.string (mt k)) ∧ Below w.heap.size w w' := by
  have hk1 : ¬ (k : Int) ≤ 0 := by omega
  go_enter Tryz.func199, Tryz.ntmps199
  go_wp2
  go_loopw [0, 3] (fun i v wr => ∃ (m f : Nat) (acc : Str), i = .int .i64 m ∧ m ≤ k ∧ v = .string ⟨acc.toArray⟩ ∧ m < 10 ^ f ∧ acc.length + f ≤ 7 ∧ Below w.heap.size w wr ∧ Hid (mtL 7 k [] = mtL f m acc)) (fun i _ _ => (intOf i).toNat)
  case atStart => exact ⟨k, 7, [], rfl, Nat.le_refl _, rfl, by omega, by simp, Below.refl _ _, rfl⟩
  case round =>
    obtain ⟨m, f, acc, rfl, hm, rfl, hf, hl, hB, he⟩ := hrel
    by_cases hm0 : m = 0
    · subst hm0
      have he' : Hid (mt k = ⟨(109 :: acc).toArray⟩) := by show _ = _; unfold mt; rw [he.out, mtL_zero]
      go_wp2
      go_ret
      refine ⟨?_, hB⟩
      rw [he'.out]
      show Ending.returned (.string (⟨#[109]⟩ ++ ⟨List.toArray acc⟩)) = _
      rw [app_mk]
      rfl
    · have hm1 : (0 : Int) < (m : Int) := by omega
      obtain ⟨f', rfl⟩ : ∃ f', f = f' + 1 := by
        cases f with
        | zero => simp at hf; omega
        | succ f' => exact ⟨f', rfl⟩
      have hcv := conv_digit wr m
      have he0 := mtL_step (f := f') acc hm0
      obtain ⟨d, hd⟩ : ∃ d, (48 + m % 10).toUInt8 = d := ⟨_, rfl⟩
      rw [hd] at hcv he0
      have he' : Hid (mtL 7 k [] = mtL f' (m / 10) (d :: acc)) := by show _ = _; rw [he.out, he0]
      have happ := app_mk [d] acc
      clear he hd he0
      go_wp2
      go_roundw
      case rel => exact ⟨m / 10, f', d :: acc, by go_num, by omega, by first | rfl | exact congrArg Value.string happ, Nat.div_lt_of_lt_mul (by rw [Nat.pow_succ] at hf; omega), by simp only [List.length_cons]; omega, hB.trans ((Below.refl _ wr).alloc hB.size _), he'⟩
      case measure => simp [intOf]; omega
/-- The first k are marked, the others as they were. -/
def mkP (f : Nat → VP) (ps : List VP) (k : Nat) : List VP := (List.range k).map f ++ ps.drop k
theorem mkP_zero (f : Nat → VP) (ps : List VP) : mkP f ps 0 = ps := by simp [mkP]
theorem mkP_set (f : Nat → VP) (ps : List VP) (k : Nat) (h : k < ps.length) : (mkP f ps k).set k (f k) = mkP f ps (k + 1) := by
  unfold mkP
  rw [List.set_append_right _ _ (by simp)]
  have e : k - ((List.range k).map f).length = 0 := by simp
  rw [e, List.drop_eq_getElem_cons h, List.set_cons_zero, List.range_succ, List.map_append, List.append_assoc]
  rfl
theorem mkP_all (f : Nat → VP) (ps : List VP) (n : Nat) (h : ps.length = n) : mkP f ps n = (List.range n).map f := by subst h; simp [mkP]
def mE (k0 i : Nat) : VP := (.string (mt (k0 + 2 * i)), .int .i64 ((k0 + 2 * i + 1 : Nat) : Int))
def mA (k0 i : Nat) : VP := (.string (mt (k0 + 2 * i)), .string (mt (k0 + 2 * i + 1)))
/-- v is a row of the call's own of pairs; nil, if there are none. -/
def OwnQ (e : TypeId) (w : World) (v : Value) (n : Nat) (ps : List VP) : Prop := w.ownsRow 0 e 2 v n (pv ps)
theorem OwnQ.cases {e : TypeId} {w : World} {v : Value} {n : Nat} {ps : List VP} (h : OwnQ e w v n ps) : (v = .slice none 0 0 ∧ n = 0 ∧ ps = []) ∨ ∃ g c, v = .slice (some ⟨g, 0, none⟩) n c ∧ OwnP e w g n c ps := by
  have hl : ps.length = n := by have := h.1; rw [pv_length] at this; omega
  rcases h.2 with ⟨h1, h2⟩ | ⟨g, cap, cur, rfl, rest⟩
  · subst h2; exact .inl ⟨h1, rfl, List.length_eq_zero_iff.1 hl⟩
  · exact .inr ⟨g, cap, rfl, h.1, .inr ⟨g, cap, cur, rfl, rest⟩⟩
theorem OwnP.q {e : TypeId} {w : World} {g n c : Nat} {ps : List VP} (h : OwnP e w g n c ps) : OwnQ e w (.slice (some ⟨g, 0, none⟩) n c) n ps := h
theorem ownQ_nil (e : TypeId) (w : World) : OwnQ e w (.slice none 0 0) 0 [] := ⟨rfl, .inl ⟨rfl, rfl⟩⟩
theorem OwnQ.keep {e : TypeId} {w w' : World} {v : Value} {n : Nat} {ps : List VP} (h : OwnQ e w v n ps) (hb : Below w.heap.size w w') : OwnQ e w' v n ps := by
  refine ⟨h.1, ?_⟩
  rcases h.2 with h' | ⟨g', cap', cur, h', hb', hgg, rest⟩
  · exact .inl h'
  · exact .inr ⟨g', cap', cur, h', hb', (hb.block g' (Array.getElem?_eq_some_iff.1 hgg).1).trans hgg, rest⟩
theorem raw_keep {e : TypeId} {w w' : World} {v : Value} {n : Nat} {xs : List Value} (h : w.ownsRow 0 e 2 v n xs) (hb : Below w.heap.size w w') : w'.ownsRow 0 e 2 v n xs := by
  refine ⟨h.1, ?_⟩
  rcases h.2 with h' | ⟨g', cap', cur, h', hb', hgg, rest⟩
  · exact .inl h'
  · exact .inr ⟨g', cap', cur, h', hb', (hb.block g' (Array.getElem?_eq_some_iff.1 hgg).1).trans hgg, rest⟩
set_option maxHeartbeats 2000000 in
theorem markE_any (v : Value) (n k0 : Nat) (ps : List VP) (w : World) (h1 : 1 ≤ k0) (hs : k0 + 2 * n ≤ 9999990) (hown : OwnQ 86 w v n ps) :
    Calls Tryz.prog 144 #[v, .int .i64 k0] w fun e w' => e = .returned (.int .i64 ((k0 + 2 * n : Nat) : Int)) ∧ OwnQ 86 w' v n ((List.range n).map (mE k0)) ∧ w.grownBy w' v.ownBlock := by
  rcases hown.cases with ⟨rfl, rfl, rfl⟩ | ⟨g, c, rfl, hownP⟩
  · go_enter Tryz.func144, Tryz.ntmps144
    go_wp2
    refine wp_loop_rounds 1 ?_; rw [rounds_succ]
    go_wp2
    go_ret
    exact ⟨rfl, ownQ_nil _ _, gr_refl w _⟩
  · have hn' : Hid (ps.length = n) := hownP.len
    clear hown
    go_enter Tryz.func144, Tryz.ntmps144
    go_wp2
    go_loopw [1, 5] (fun q i wr => ∃ k : Nat, k ≤ n ∧ i = .int .i64 k ∧ q = .int .i64 ((k0 + 2 * k : Nat) : Int) ∧ OwnP 86 wr g n c (mkP (mE k0) ps k) ∧ w.grownBy wr (some g)) (fun _ i _ => n - (intOf i).toNat)
    case atStart => exact ⟨0, Nat.zero_le _, rfl, rfl, by rw [mkP_zero]; exact hownP, gr_refl w _⟩
    case round =>
      obtain ⟨k, hk, rfl, rfl, ho, hgr⟩ := hrel
      obtain ⟨q, hq⟩ : ∃ q, k0 + 2 * k = q := ⟨_, rfl⟩
      rw [hq]
      by_cases hkn : k < n
      · have hki : (k : Int) < (n : Int) := by omega
        go_wp2_with fail
        refine (markText_big q _ (by omega) (by omega)).mono ?_
        rintro e w1 ⟨rfl, hb1⟩
        have ho1 := ho.keep hb1
        obtain ⟨p1, p2⟩ := ho1.cells k hkn
        have f1 := ho1.frozen (k * 2)
        have f2 := ho1.frozen (k * 2 + 1)
        obtain ⟨T1, hT1⟩ : ∃ T, mt q = T := ⟨_, rfl⟩
        rw [hT1]
        obtain ⟨V1, hV1⟩ : ∃ V, ((mkP (mE k0) ps k).getD k (undef, undef)).1 = V := ⟨_, rfl⟩
        rw [hV1] at p1
        clear hV1
        have hgr' : w.grownBy ((w1.setCell ⟨g, k * 2, none⟩ (.string T1)).setCell ⟨g, k * 2 + 1, none⟩ (.int .i64 ((q + 1 : Nat) : Int))) (some g) := ((hgr.trans (gr_of_below hb1 _)).trans (gr_setC _ g (k * 2) _)).trans (gr_setC _ g (k * 2 + 1) _)
        have hst := ownP_stored ho1 k hkn (.string T1, .int .i64 ((q + 1 : Nat) : Int))
        dsimp only at hst
        rw [show ((Value.string T1, Value.int .i64 ((q + 1 : Nat) : Int)) : VP) = mE k0 k from by unfold mE; rw [hq, hT1], mkP_set _ ps k (by rw [hn'.out]; exact hkn)] at hst
        clear ho hgr ho1 hb1 hT1
        go_wp2
        go_roundw
        case rel => exact ⟨k + 1, by omega, by go_num, by rw [show k0 + 2 * (k + 1) = q + 1 + 1 by omega]; go_num, hst, hgr'⟩
        case measure => simp [intOf]; omega
      · have hki : ¬ (k : Int) < (n : Int) := by omega
        go_wp2
        go_ret
        obtain rfl : k = n := by omega
        refine ⟨by show Ending.returned (.int .i64 (q : Int)) = _; rw [← hq]; first | rfl | simp, ?_, hgr⟩
        rw [mkP_all _ ps k hn'.out] at ho
        exact ho.q
set_option maxHeartbeats 2000000 in
theorem heldE_any (v : Value) (n k0 : Nat) (w : World) (h1 : 1 ≤ k0) (hs : k0 + 2 * n ≤ 9999990) (hown : OwnQ 86 w v n ((List.range n).map (mE k0))) :
    Calls Tryz.prog 147 #[v, .int .i64 k0] w fun e w' => e = .returned (.int .i64 ((k0 + 2 * n : Nat) : Int)) ∧ Below w.heap.size w w' := by
  rcases hown.cases with ⟨rfl, rfl, _⟩ | ⟨g, c, rfl, hownP⟩
  · go_enter Tryz.func147, Tryz.ntmps147
    go_wp2
    refine wp_loop_rounds 1 ?_; rw [rounds_succ]
    go_wp2
    go_ret
    exact ⟨rfl, Below.refl _ _⟩
  · have HC : Hid (∀ k, k < n → w.cell? ⟨g, k * 2, none⟩ = some (mE k0 k).1 ∧ w.cell? ⟨g, k * 2 + 1, none⟩ = some (mE k0 k).2) := by
      intro k hk
      have := hownP.cells k hk
      rw [show ((List.range n).map (mE k0)).getD k (undef, undef) = mE k0 k by simp [hk]] at this
      exact this
    have hgw := hownP.lt
    clear hown hownP
    go_enter Tryz.func147, Tryz.ntmps147
    go_wp2
    go_loopw [1, 5] (fun q i wr => ∃ k : Nat, k ≤ n ∧ i = .int .i64 k ∧ q = .int .i64 ((k0 + 2 * k : Nat) : Int) ∧ Below w.heap.size w wr) (fun _ i _ => n - (intOf i).toNat)
    case atStart => exact ⟨0, Nat.zero_le _, rfl, rfl, Below.refl _ _⟩
    case round =>
      obtain ⟨k, hk, rfl, rfl, hB⟩ := hrel
      have hbs := hB.size
      have hglt : g < wr.heap.size := by omega
      obtain ⟨q, hq⟩ : ∃ q, k0 + 2 * k = q := ⟨_, rfl⟩
      rw [hq]
      by_cases hkn : k < n
      · have hki : (k : Int) < (n : Int) := by omega
        obtain ⟨T1, hT1⟩ : ∃ T, mt q = T := ⟨_, rfl⟩
        have hx := HC.out k hkn
        rw [show mE k0 k = (.string T1, .int .i64 ((q + 1 : Nat) : Int)) from by unfold mE; rw [hq, hT1]] at hx
        have x1 : wr.cell? ⟨g, k * 2, none⟩ = _ := (hB.cell (by exact hgw)).trans hx.1
        have x2 : wr.cell? ⟨g, k * 2 + 1, none⟩ = _ := (hB.cell (by exact hgw)).trans hx.2
        dsimp only at x1 x2
        have HX : Hid (wr.cell? ⟨g, k * 2, none⟩ = some (.string T1) ∧ wr.cell? ⟨g, k * 2 + 1, none⟩ = some (.int .i64 ((q + 1 : Nat) : Int))) := ⟨x1, x2⟩
        clear hx
        go_wp2
        go_region_with (go_at_call 199; refine (markText_big q _ (by omega) (by omega)).mono ?_; rintro e w1 ⟨rfl, b1⟩; rw [hT1]; have x1' : w1.cell? ⟨g, k * 2, none⟩ = _ := (b1.cell (by exact hglt)).trans HX.out.1; have x2' : w1.cell? ⟨g, k * 2 + 1, none⟩ = _ := (b1.cell (by exact hglt)).trans HX.out.2)
        all_goals go_wp2
        all_goals go_roundw
        all_goals first
          | (case rel => exact ⟨k + 1, by omega, by go_num, by rw [show k0 + 2 * (k + 1) = q + 1 + 1 by omega]; go_num, hB.drew.trans (b1.mono hbs)⟩)
          | (case measure => simp [intOf]; omega)
      · have hki : ¬ (k : Int) < (n : Int) := by omega
        go_wp2
        go_ret
        obtain rfl : k = n := by omega
        exact ⟨by show Ending.returned (.int .i64 (q : Int)) = _; rw [← hq]; first | rfl | simp, hB⟩
set_option maxHeartbeats 2000000 in
theorem markA_any (v : Value) (n k0 : Nat) (ps : List VP) (w : World) (h1 : 1 ≤ k0) (hs : k0 + 2 * n ≤ 9999990) (hown : OwnQ 89 w v n ps) :
    Calls Tryz.prog 145 #[v, .int .i64 k0] w fun e w' => e = .returned (.int .i64 ((k0 + 2 * n : Nat) : Int)) ∧ OwnQ 89 w' v n ((List.range n).map (mA k0)) ∧ w.grownBy w' v.ownBlock := by
  rcases hown.cases with ⟨rfl, rfl, rfl⟩ | ⟨g, c, rfl, hownP⟩
  · go_enter Tryz.func145, Tryz.ntmps145
    go_wp2
    refine wp_loop_rounds 1 ?_; rw [rounds_succ]
    go_wp2
    go_ret
    exact ⟨rfl, ownQ_nil _ _, gr_refl w _⟩
  · have hn' : Hid (ps.length = n) := hownP.len
    clear hown
    go_enter Tryz.func145, Tryz.ntmps145
    go_wp2
    go_loopw [1, 5] (fun q i wr => ∃ k : Nat, k ≤ n ∧ i = .int .i64 k ∧ q = .int .i64 ((k0 + 2 * k : Nat) : Int) ∧ OwnP 89 wr g n c (mkP (mA k0) ps k) ∧ w.grownBy wr (some g)) (fun _ i _ => n - (intOf i).toNat)
    case atStart => exact ⟨0, Nat.zero_le _, rfl, rfl, by rw [mkP_zero]; exact hownP, gr_refl w _⟩
    case round =>
      obtain ⟨k, hk, rfl, rfl, ho, hgr⟩ := hrel
      obtain ⟨q, hq⟩ : ∃ q, k0 + 2 * k = q := ⟨_, rfl⟩
      rw [hq]
      by_cases hkn : k < n
      · have hki : (k : Int) < (n : Int) := by omega
        go_wp2_with fail
        refine (markText_big q _ (by omega) (by omega)).mono ?_
        rintro e w1 ⟨rfl, hb1⟩
        have ho1 := ho.keep hb1
        obtain ⟨p1, p2⟩ := ho1.cells k hkn
        have f1 := ho1.frozen (k * 2)
        have f2 := ho1.frozen (k * 2 + 1)
        obtain ⟨T1, hT1⟩ : ∃ T, mt q = T := ⟨_, rfl⟩
        rw [hT1]
        obtain ⟨V1, hV1⟩ : ∃ V, ((mkP (mA k0) ps k).getD k (undef, undef)).1 = V := ⟨_, rfl⟩
        rw [hV1] at p1
        clear hV1
        obtain ⟨V2, hV2⟩ : ∃ V, ((mkP (mA k0) ps k).getD k (undef, undef)).2 = V := ⟨_, rfl⟩
        rw [hV2] at p2
        have hraw := (World.ownsRow.stored ho1 (k * 2) (.string T1)).1
        have hgr1 : w.grownBy (w1.setCell ⟨g, k * 2, none⟩ (.string T1)) (some g) := (hgr.trans (gr_of_below hb1 _)).trans (gr_setC _ g (k * 2) _)
        have hcell1 : ((pv (mkP (mA k0) ps k)).set (k * 2) (.string T1))[k * 2 + 1]? = some V2 := by
          rw [List.getElem?_set_ne (by omega), (pv_at _ k (by have := ho1.len; omega)).2, hV2]
        have hl1 := ho1.lt
        have hsz1 : (w1.setCell ⟨g, k * 2, none⟩ (.string T1)).heap.size = w1.heap.size := size_setC _ _ _
        obtain ⟨W1, hW1⟩ : ∃ W, w1.setCell ⟨g, k * 2, none⟩ (.string T1) = W := ⟨_, rfl⟩
        go_wp2_with fail
        try simp only [hW1] at hraw hgr1 hsz1 ⊢
        refine (markText_big (q + 1) W1 (by omega) (by omega)).mono ?_
        rintro e w2 ⟨rfl, hb2⟩
        have hraw2 : w2.ownsRow 0 89 2 (.slice (some ⟨g, 0, none⟩) n c) n ((pv (mkP (mA k0) ps k)).set (k * 2) (.string T1)) := raw_keep hraw hb2
        have r1 := World.ownsRow.cells hraw2 (g := g) rfl (k * 2 + 1) _ hcell1
        rw [add_at] at r1
        have r2 := World.ownsRow.frozenAt hraw2 (k * 2 + 1)
        obtain ⟨T2, hT2⟩ : ∃ T, mt (q + 1) = T := ⟨_, rfl⟩
        rw [hT2]
        have hst := (World.ownsRow.stored hraw2 (k * 2 + 1) (.string T2)).1
        rw [pv_set _ k (.string T1, .string T2) (by have := ho1.len; omega), show ((Value.string T1, Value.string T2) : VP) = mA k0 k from by unfold mA; rw [hq, hT1, hT2], mkP_set _ ps k (by rw [hn'.out]; exact hkn)] at hst
        have hgr' : w.grownBy (w2.setCell ⟨g, k * 2 + 1, none⟩ (.string T2)) (some g) := (hgr1.trans (gr_of_below hb2 _)).trans (gr_setC _ g (k * 2 + 1) _)
        clear ho hgr ho1 hb1 hT1 hT2 hraw hraw2 hgr1 hb2 hcell1
        go_wp2
        go_roundw
        case rel => exact ⟨k + 1, by omega, by go_num, by rw [show k0 + 2 * (k + 1) = q + 1 + 1 by omega]; go_num, hst, hgr'⟩
        case measure => simp [intOf]; omega
      · have hki : ¬ (k : Int) < (n : Int) := by omega
        go_wp2
        go_ret
        obtain rfl : k = n := by omega
        refine ⟨by show Ending.returned (.int .i64 (q : Int)) = _; rw [← hq]; first | rfl | simp, ?_, hgr⟩
        rw [mkP_all _ ps k hn'.out] at ho
        exact ho.q
set_option maxHeartbeats 2000000 in
theorem heldA_any (v : Value) (n k0 : Nat) (w : World) (h1 : 1 ≤ k0) (hs : k0 + 2 * n ≤ 9999990) (hown : OwnQ 89 w v n ((List.range n).map (mA k0))) :
    Calls Tryz.prog 148 #[v, .int .i64 k0] w fun e w' => e = .returned (.int .i64 ((k0 + 2 * n : Nat) : Int)) ∧ Below w.heap.size w w' := by
  rcases hown.cases with ⟨rfl, rfl, _⟩ | ⟨g, c, rfl, hownP⟩
  · go_enter Tryz.func148, Tryz.ntmps148
    go_wp2
    refine wp_loop_rounds 1 ?_; rw [rounds_succ]
    go_wp2
    go_ret
    exact ⟨rfl, Below.refl _ _⟩
  · have HC : Hid (∀ k, k < n → w.cell? ⟨g, k * 2, none⟩ = some (mA k0 k).1 ∧ w.cell? ⟨g, k * 2 + 1, none⟩ = some (mA k0 k).2) := by
      intro k hk
      have := hownP.cells k hk
      rw [show ((List.range n).map (mA k0)).getD k (undef, undef) = mA k0 k by simp [hk]] at this
      exact this
    have hgw := hownP.lt
    clear hown hownP
    go_enter Tryz.func148, Tryz.ntmps148
    go_wp2
    go_loopw [1, 5] (fun q i wr => ∃ k : Nat, k ≤ n ∧ i = .int .i64 k ∧ q = .int .i64 ((k0 + 2 * k : Nat) : Int) ∧ Below w.heap.size w wr) (fun _ i _ => n - (intOf i).toNat)
    case atStart => exact ⟨0, Nat.zero_le _, rfl, rfl, Below.refl _ _⟩
    case round =>
      obtain ⟨k, hk, rfl, rfl, hB⟩ := hrel
      have hbs := hB.size
      have hglt : g < wr.heap.size := by omega
      obtain ⟨q, hq⟩ : ∃ q, k0 + 2 * k = q := ⟨_, rfl⟩
      rw [hq]
      by_cases hkn : k < n
      · have hki : (k : Int) < (n : Int) := by omega
        obtain ⟨T1, hT1⟩ : ∃ T, mt q = T := ⟨_, rfl⟩
        obtain ⟨T2, hT2⟩ : ∃ T, mt (q + 1) = T := ⟨_, rfl⟩
        have hx := HC.out k hkn
        rw [show mA k0 k = (.string T1, .string T2) from by unfold mA; rw [hq, hT1, hT2]] at hx
        have x1 : wr.cell? ⟨g, k * 2, none⟩ = _ := (hB.cell (by exact hgw)).trans hx.1
        have x2 : wr.cell? ⟨g, k * 2 + 1, none⟩ = _ := (hB.cell (by exact hgw)).trans hx.2
        dsimp only at x1 x2
        have HX : Hid (wr.cell? ⟨g, k * 2, none⟩ = some (.string T1) ∧ wr.cell? ⟨g, k * 2 + 1, none⟩ = some (.string T2)) := ⟨x1, x2⟩
        clear hx
        go_upto_region 4 with fail
        go_cut [19] (fun s wx => s = .bool false ∧ Below wr.heap.size wr wx)
        case first =>
          go_region_with (go_at_call 199; refine (markText_big q _ (by omega) (by omega)).mono ?_; rintro e w1 ⟨rfl, b1⟩; rw [hT1]; have x1' : w1.cell? ⟨g, k * 2, none⟩ = _ := (b1.cell (by exact hglt)).trans HX.out.1)
          all_goals (go_wp2_with fail; go_meet; exact ⟨rfl, (Below.refl wr.heap.size wr).drew.trans b1⟩)
        case rest =>
        obtain ⟨rfl, b1⟩ := hcut
        have hB1 := hB.trans (b1.mono hbs)
        have hbs1 := hB1.size
        have hglt1 : g < wc.heap.size := by have := b1.size; omega
        have y1 : wc.cell? ⟨g, k * 2, none⟩ = _ := (b1.cell (by exact hglt)).trans HX.out.1
        have y2 : wc.cell? ⟨g, k * 2 + 1, none⟩ = _ := (b1.cell (by exact hglt)).trans HX.out.2
        clear x1 x2
        go_wp2
        go_region_with (go_at_call 199; refine (markText_big (q + 1) _ (by omega) (by omega)).mono ?_; rintro e w2 ⟨rfl, b2⟩; rw [hT2]; have z1' : w2.cell? ⟨g, k * 2 + 1, none⟩ = _ := (b2.cell (by exact hglt1)).trans y2)
        all_goals go_wp2
        all_goals go_roundw
        all_goals first
          | (case rel => (repeat apply Exists.intro); exact ⟨⟨k + 1, by omega, by go_num, by rw [show k0 + 2 * (k + 1) = q + 1 + 1 by omega]; go_num, hB1.drew.trans (b2.mono hbs1)⟩, rfl⟩)
          | (case rel => exact ⟨k + 1, by omega, by go_num, by rw [show k0 + 2 * (k + 1) = q + 1 + 1 by omega]; go_num, hB1.drew.trans (b2.mono hbs1)⟩)
          | (case measure => simp [intOf]; omega)
      · have hki : ¬ (k : Int) < (n : Int) := by omega
        go_wp2
        go_ret
        obtain rfl : k = n := by omega
        exact ⟨by show Ending.returned (.int .i64 (q : Int)) = _; rw [← hq]; first | rfl | simp, hB⟩
end

section
open Go.RowKit
/-- v is a row of the call's own, at or behind B, of the bytes zs; nil, if there are none. -/
def OwnV (B : Nat) (w : World) (v : Value) (n : Nat) (zs : List Int) : Prop := w.ownsRow B 5 1 v n (zs.map (Value.int .u8))
theorem OwnV.len {B : Nat} {w : World} {v : Value} {n : Nat} {zs : List Int} (h : OwnV B w v n zs) : zs.length = n := by simpa using h.1
theorem OwnV.block {B : Nat} {w : World} {v : Value} {n k : Nat} {zs : List Int} (h : OwnV B w v n zs) (hk : v.ownBlock = some k) : B ≤ k ∧ ∃ cur, w.heap[k]? = some (.cells cur 5 (0, 0)) := by
  rcases h.2 with ⟨rfl, _⟩ | ⟨g, cap, cur, rfl, hb, hg, _⟩
  · simp [Value.ownBlock] at hk
  · simp [Value.ownBlock] at hk
    subst hk
    exact ⟨hb, cur, hg⟩
theorem OwnV.alloc {B : Nat} {w : World} {v : Value} {n : Nat} {zs : List Int} (h : OwnV B w v n zs) (o : Obj) : OwnV B (w.alloc o) v n zs := World.ownsRow.alloc h o
theorem Blk.row {B : Nat} {w w' : World} {v : Value} {n ad : Nat} {zs : List Int} {t : TypeId} {vs : Array Value} (h : Blk w ad t vs) (ht : t ≠ 5) (ho : OwnV B w v n zs) (hg : w.grownBy w' v.ownBlock) : Blk w' ad t vs := by
  refine (hg.block ad h.lt ?_).trans h
  intro e
  obtain ⟨_, cur, hc⟩ := ho.block e.symm
  rw [show w.heap[ad]? = _ from h] at hc
  simp at hc
  exact ht hc.2
theorem OwnV.some {B : Nat} {w : World} {v : Value} {n : Nat} {zs : List Int} (h : OwnV B w v n zs) (hn : n ≠ 0) : ∃ g c, v = .slice (some ⟨g, 0, none⟩) n c ∧ B ≤ g ∧ Own w g n c zs := by
  rcases h.2 with ⟨rfl, h0⟩ | ⟨g, cap, cur, rfl, hb, hg, rest⟩
  · exact absurd h0 hn
  · exact ⟨g, cap, rfl, hb, h.1, .inr ⟨g, cap, cur, rfl, Nat.zero_le _, hg, rest⟩⟩
end

section
open Go.RowKit
theorem row_at {e : TypeId} {B s n : Nat} {w : World} {v : Value} {xs : List Value} (h : w.ownsRow B e s v n xs) {g : Nat} (hg : v.ownBlock = some g) : B ≤ g ∧ ∃ cur, w.heap[g]? = some (.cells cur e (0, 0)) := by
  rcases h.2 with ⟨rfl, _⟩ | ⟨g', cap, cur, rfl, hb, hgg, _⟩
  · simp [Value.ownBlock] at hg
  · simp [Value.ownBlock] at hg
    subst hg
    exact ⟨hb, cur, hgg⟩
theorem row_ne {e e' : TypeId} {B B' s s' n n' : Nat} {w : World} {v v' : Value} {xs xs' : List Value} (h : w.ownsRow B e s v n xs) (h' : w.ownsRow B' e' s' v' n' xs') (he : e ≠ e') {g : Nat} (hg : v.ownBlock = some g) : v'.ownBlock ≠ some g := by
  intro hg'
  obtain ⟨_, c1, h1⟩ := row_at h hg
  obtain ⟨_, c2, h2⟩ := row_at h' hg'
  rw [h1] at h2
  simp at h2
  exact he h2.2
/-- A row is as it was where only another one grew. -/
theorem row_kept {e : TypeId} {B s n : Nat} {w w' : World} {v : Value} {xs : List Value} (h : w.ownsRow B e s v n xs) {r : Option Nat} (hg : w.grownBy w' r) (hne : ∀ g, v.ownBlock = some g → r ≠ some g) : w'.ownsRow B e s v n xs := by
  refine ⟨h.1, ?_⟩
  rcases h.2 with h' | ⟨g', cap, cur, rfl, hb, hgg, rest⟩
  · exact .inl h'
  · exact .inr ⟨g', cap, cur, rfl, hb, (hg.block g' (Array.getElem?_eq_some_iff.1 hgg).1 (fun e => hne g' rfl e.symm)).trans hgg, rest⟩
/-- All blocks but the three rows are as they were. -/
structure But (w w' : World) (r1 r2 r3 : Option Nat) : Prop where
  os : w'.os = w.os
  tape : w'.tape = w.tape
  output : w'.output = w.output
  size : w.heap.size ≤ w'.heap.size
  block : ∀ k, k < w.heap.size → some k ≠ r1 → some k ≠ r2 → some k ≠ r3 → w'.heap[k]? = w.heap[k]?
theorem OwnV.keep {B : Nat} {w w' : World} {v : Value} {n : Nat} {zs : List Int} (h : OwnV B w v n zs) (hb : Below w.heap.size w w') : OwnV B w' v n zs := by
  refine ⟨h.1, ?_⟩
  rcases h.2 with h' | ⟨g', cap', cur, h', hb', hgg, rest⟩
  · exact .inl h'
  · exact .inr ⟨g', cap', cur, h', hb', (hb.block g' (Array.getElem?_eq_some_iff.1 hgg).1).trans hgg, rest⟩
end
end Go.Proofs.YtnfplimhhjpbkaaGreatDoor
