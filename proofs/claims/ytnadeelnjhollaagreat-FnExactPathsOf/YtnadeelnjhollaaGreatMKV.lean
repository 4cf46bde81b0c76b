/-
  Joined: MarkI, Puts, MarkIno, Kept, MarkG, MarkGI.
-/
import Derived.Test.YtnadeelnjhollaaGreatMarkTV
import Derived.Test.YtnadeelnjhollaaGreatTabMV
import Derived.Deep.DeepCutAuto
import Derived.Lib.AppendStr
import Derived.Lib.ConvBytes
import Derived.Deep.RegionHeld3
import Derived.Deep.AppendLies
namespace Go.Proofs.YtnadeelnjhollaaGreat
section
open Go.RowKit
set_option maxHeartbeats 1000000 in
set_option maxRecDepth 100000 in
theorem markText_big (k : Nat) (w : World) (hk : k ≤ 9999999) (h1 : 1 ≤ k) :
    Calls Tryz.prog 30 #[.int .i64 k] w fun e w' => e = .returned (.string (mt k)) ∧ Below w.heap.size w w' := by
  have hk1 : ¬ (k : Int) ≤ 0 := by omega
  go_enter Tryz.func30, Tryz.ntmps30
  go_wp2
  go_loopw [0, 3] (fun i v wr => ∃ (m f : Nat) (acc : Str), i = .int .i64 m ∧ m ≤ k ∧ v = .string ⟨acc.toArray⟩ ∧ m < 10 ^ f ∧ acc.length + f ≤ 7 ∧ Below w.heap.size w wr ∧ Hid (mtL 7 k [] = mtL f m acc)) (fun i _ _ => (intOf i).toNat)
  case atStart => exact ⟨k, 7, [], rfl, Nat.le_refl _, rfl, by omega, by simp, Below.refl _ _, rfl⟩
  case round =>
    obtain ⟨m, f, acc, rfl, hm, rfl, hf, hl, hB, he⟩ := hrel
    by_cases hm0 : m = 0
    · subst hm0
      have he' : Hid (mt k = ⟨(109 :: acc).toArray⟩) := by show _ = _; unfold mt; rw [he.out, mtL_zero]
      go_wp2
      go_ret
      refine ⟨?_, hB⟩
      rw [he'.out]
      show Ending.returned (.string (⟨#[109]⟩ ++ ⟨List.toArray acc⟩)) = _
      rw [app_mk]
      rfl
    · have hm1 : (0 : Int) < (m : Int) := by omega
      obtain ⟨f', rfl⟩ : ∃ f', f = f' + 1 := by
        cases f with
        | zero => simp at hf; omega
        | succ f' => exact ⟨f', rfl⟩
      have hcv := conv_digit wr m
      have he0 := mtL_step (f := f') acc hm0
      obtain ⟨d, hd⟩ : ∃ d, (48 + m % 10).toUInt8 = d := ⟨_, rfl⟩
      rw [hd] at hcv he0
      have he' : Hid (mtL 7 k [] = mtL f' (m / 10) (d :: acc)) := by show _ = _; rw [he.out, he0]
      have happ := app_mk [d] acc
      clear he hd he0
      go_wp2
      go_roundw
      case rel => exact ⟨m / 10, f', d :: acc, by go_num, by omega, by first | rfl | exact congrArg Value.string happ, Nat.div_lt_of_lt_mul (by rw [Nat.pow_succ] at hf; omega), by simp only [List.length_cons]; omega, hB.trans ((Below.refl _ wr).alloc hB.size _), he'⟩
      case measure => simp [intOf]; omega
/-- The first k are marked, the others as they were. -/
def mkP (f : Nat → VP) (ps : List VP) (k : Nat) : List VP := (List.range k).map f ++ ps.drop k
theorem mkP_zero (f : Nat → VP) (ps : List VP) : mkP f ps 0 = ps := by simp [mkP]
theorem mkP_set (f : Nat → VP) (ps : List VP) (k : Nat) (h : k < ps.length) : (mkP f ps k).set k (f k) = mkP f ps (k + 1) := by
  unfold mkP
  rw [List.set_append_right _ _ (by simp)]
  have e : k - ((List.range k).map f).length = 0 := by simp
  rw [e, List.drop_eq_getElem_cons h, List.set_cons_zero, List.range_succ, List.map_append, List.append_assoc]
  rfl
theorem mkP_all (f : Nat → VP) (ps : List VP) (n : Nat) (h : ps.length = n) : mkP f ps n = (List.range n).map f := by subst h; simp [mkP]
def mE (k0 i : Nat) : VP := (.string (mt (k0 + 2 * i)), .int .i64 ((k0 + 2 * i + 1 : Nat) : Int))
def mA (k0 i : Nat) : VP := (.string (mt (k0 + 2 * i)), .string (mt (k0 + 2 * i + 1)))
/-- v is a row of the call's own of pairs; nil, if there are none. -/
def OwnQ (e : TypeId) (w : World) (v : Value) (n : Nat) (ps : List VP) : Prop := w.ownsRow 0 e 2 v n (pv ps)
theorem OwnQ.cases {e : TypeId} {w : World} {v : Value} {n : Nat} {ps : List VP} (h : OwnQ e w v n ps) : (v = .slice none 0 0 ∧ n = 0 ∧ ps = []) ∨ ∃ g c, v = .slice (some ⟨g, 0, none⟩) n c ∧ OwnP e w g n c ps := by
  have hl : ps.length = n := by have := h.1; rw [pv_length] at this; omega
  rcases h.2 with ⟨h1, h2⟩ | ⟨g, cap, cur, rfl, rest⟩
  · subst h2; exact .inl ⟨h1, rfl, List.length_eq_zero_iff.1 hl⟩
  · exact .inr ⟨g, cap, rfl, h.1, .inr ⟨g, cap, cur, rfl, rest⟩⟩
theorem OwnP.q {e : TypeId} {w : World} {g n c : Nat} {ps : List VP} (h : OwnP e w g n c ps) : OwnQ e w (.slice (some ⟨g, 0, none⟩) n c) n ps := h
theorem ownQ_nil (e : TypeId) (w : World) : OwnQ e w (.slice none 0 0) 0 [] := ⟨rfl, .inl ⟨rfl, rfl⟩⟩
theorem OwnQ.keep {e : TypeId} {w w' : World} {v : Value} {n : Nat} {ps : List VP} (h : OwnQ e w v n ps) (hb : Below w.heap.size w w') : OwnQ e w' v n ps := by
  refine ⟨h.1, ?_⟩
  rcases h.2 with h' | ⟨g', cap', cur, h', hb', hgg, rest⟩
  · exact .inl h'
  · exact .inr ⟨g', cap', cur, h', hb', (hb.block g' (Array.getElem?_eq_some_iff.1 hgg).1).trans hgg, rest⟩
theorem raw_keep {e : TypeId} {w w' : World} {v : Value} {n : Nat} {xs : List Value} (h : w.ownsRow 0 e 2 v n xs) (hb : Below w.heap.size w w') : w'.ownsRow 0 e 2 v n xs := by
  refine ⟨h.1, ?_⟩
  rcases h.2 with h' | ⟨g', cap', cur, h', hb', hgg, rest⟩
  · exact .inl h'
  · exact .inr ⟨g', cap', cur, h', hb', (hb.block g' (Array.getElem?_eq_some_iff.1 hgg).1).trans hgg, rest⟩
set_option maxHeartbeats 2000000 in
theorem markE_any (v : Value) (n k0 : Nat) (ps : List VP) (w : World) (h1 : 1 ≤ k0) (hs : k0 + 2 * n ≤ 9999990) (hown : OwnQ 60 w v n ps) :
    Calls Tryz.prog 51 #[v, .int .i64 k0] w fun e w' => e = .returned (.int .i64 ((k0 + 2 * n : Nat) : Int)) ∧ OwnQ 60 w' v n ((List.range n).map (mE k0)) ∧ w.grownBy w' v.ownBlock := by
  rcases hown.cases with ⟨rfl, rfl, rfl⟩ | ⟨g, c, rfl, hownP⟩
  · go_enter Tryz.func51, Tryz.ntmps51
    go_wp2
    refine wp_loop_rounds 1 ?_; rw [rounds_succ]
    go_wp2
    go_ret
    exact ⟨rfl, ownQ_nil _ _, gr_refl w _⟩
  · have hn' : Hid (ps.length = n) := hownP.len
    clear hown
    go_enter Tryz.func51, Tryz.ntmps51
    go_wp2
    go_loopw [1, 5] (fun q i wr => ∃ k : Nat, k ≤ n ∧ i = .int .i64 k ∧ q = .int .i64 ((k0 + 2 * k : Nat) : Int) ∧ OwnP 60 wr g n c (mkP (mE k0) ps k) ∧ w.grownBy wr (some g)) (fun _ i _ => n - (intOf i).toNat)
    case atStart => exact ⟨0, Nat.zero_le _, rfl, rfl, by rw [mkP_zero]; exact hownP, gr_refl w _⟩
    case round =>
      obtain ⟨k, hk, rfl, rfl, ho, hgr⟩ := hrel
      obtain ⟨q, hq⟩ : ∃ q, k0 + 2 * k = q := ⟨_, rfl⟩
      rw [hq]
      by_cases hkn : k < n
      · have hki : (k : Int) < (n : Int) := by omega
        go_wp2_with fail
        refine (markText_big q _ (by omega) (by omega)).mono ?_
        rintro e w1 ⟨rfl, hb1⟩
        have ho1 := ho.keep hb1
        obtain ⟨p1, p2⟩ := ho1.cells k hkn
        have f1 := ho1.frozen (k * 2)
        have f2 := ho1.frozen (k * 2 + 1)
        obtain ⟨T1, hT1⟩ : ∃ T, mt q = T := ⟨_, rfl⟩
        rw [hT1]
        obtain ⟨V1, hV1⟩ : ∃ V, ((mkP (mE k0) ps k).getD k (undef, undef)).1 = V := ⟨_, rfl⟩
        rw [hV1] at p1
        clear hV1
        have hgr' : w.grownBy ((w1.setCell ⟨g, k * 2, none⟩ (.string T1)).setCell ⟨g, k * 2 + 1, none⟩ (.int .i64 ((q + 1 : Nat) : Int))) (some g) := ((hgr.trans (gr_of_below hb1 _)).trans (gr_setC _ g (k * 2) _)).trans (gr_setC _ g (k * 2 + 1) _)
        have hst := ownP_stored ho1 k hkn (.string T1, .int .i64 ((q + 1 : Nat) : Int))
        dsimp only at hst
        rw [show ((Value.string T1, Value.int .i64 ((q + 1 : Nat) : Int)) : VP) = mE k0 k from by unfold mE; rw [hq, hT1], mkP_set _ ps k (by rw [hn'.out]; exact hkn)] at hst
        clear ho hgr ho1 hb1 hT1
        go_wp2
        go_roundw
        case rel => exact ⟨k + 1, by omega, by go_num, by rw [show k0 + 2 * (k + 1) = q + 1 + 1 by omega]; go_num, hst, hgr'⟩
        case measure => simp [intOf]; omega
      · have hki : ¬ (k : Int) < (n : Int) := by omega
        go_wp2
        go_ret
        obtain rfl : k = n := by omega
        refine ⟨by show Ending.returned (.int .i64 (q : Int)) = _; rw [← hq]; first | rfl | simp, ?_, hgr⟩
        rw [mkP_all _ ps k hn'.out] at ho
        exact ho.q
set_option maxHeartbeats 2000000 in
theorem markA_any (v : Value) (n k0 : Nat) (ps : List VP) (w : World) (h1 : 1 ≤ k0) (hs : k0 + 2 * n ≤ 9999990) (hown : OwnQ 48 w v n ps) :
    Calls Tryz.prog 52 #[v, .int .i64 k0] w fun e w' => e = .returned (.int .i64 ((k0 + 2 * n : Nat) : Int)) ∧ OwnQ 48 w' v n ((List.range n).map (mA k0)) ∧ w.grownBy w' v.ownBlock := by
  rcases hown.cases with ⟨rfl, rfl, rfl⟩ | ⟨g, c, rfl, hownP⟩
  · go_enter Tryz.func52, Tryz.ntmps52
    go_wp2
    refine wp_loop_rounds 1 ?_; rw [rounds_succ]
    go_wp2
    go_ret
    exact ⟨rfl, ownQ_nil _ _, gr_refl w _⟩
  · have hn' : Hid (ps.length = n) := hownP.len
    clear hown
    go_enter Tryz.func52, Tryz.ntmps52
    go_wp2
    go_loopw [1, 5] (fun q i wr => ∃ k : Nat, k ≤ n ∧ i = .int .i64 k ∧ q = .int .i64 ((k0 + 2 * k : Nat) : Int) ∧ OwnP 48 wr g n c (mkP (mA k0) ps k) ∧ w.grownBy wr (some g)) (fun _ i _ => n - (intOf i).toNat)
    case atStart => exact ⟨0, Nat.zero_le _, rfl, rfl, by rw [mkP_zero]; exact hownP, gr_refl w _⟩
    case round =>
      obtain ⟨k, hk, rfl, rfl, ho, hgr⟩ := hrel
      obtain ⟨q, hq⟩ : ∃ q, k0 + 2 * k = q := ⟨_, rfl⟩
      rw [hq]
      by_cases hkn : k < n
      · have hki : (k : Int) < (n : Int) := by omega
        go_wp2_with fail
        refine (markText_big q _ (by omega) (by omega)).mono ?_
        rintro e w1 ⟨rfl, hb1⟩
        have ho1 := ho.keep hb1
        obtain ⟨p1, p2⟩ := ho1.cells k hkn
        have f1 := ho1.frozen (k * 2)
        have f2 := ho1.frozen (k * 2 + 1)
        obtain ⟨T1, hT1⟩ : ∃ T, mt q = T := ⟨_, rfl⟩
        rw [hT1]
        obtain ⟨V1, hV1⟩ : ∃ V, ((mkP (mA k0) ps k).getD k (undef, undef)).1 = V := ⟨_, rfl⟩
        rw [hV1] at p1
        clear hV1
        obtain ⟨V2, hV2⟩ : ∃ V, ((mkP (mA k0) ps k).getD k (undef, undef)).2 = V := ⟨_, rfl⟩
        rw [hV2] at p2
        have hraw := (World.ownsRow.stored ho1 (k * 2) (.string T1)).1
        have hgr1 : w.grownBy (w1.setCell ⟨g, k * 2, none⟩ (.string T1)) (some g) := (hgr.trans (gr_of_below hb1 _)).trans (gr_setC _ g (k * 2) _)
        have hcell1 : ((pv (mkP (mA k0) ps k)).set (k * 2) (.string T1))[k * 2 + 1]? = some V2 := by
          rw [List.getElem?_set_ne (by omega), (pv_at _ k (by have := ho1.len; omega)).2, hV2]
        have hl1 := ho1.lt
        have hsz1 : (w1.setCell ⟨g, k * 2, none⟩ (.string T1)).heap.size = w1.heap.size := size_setC _ _ _
        obtain ⟨W1, hW1⟩ : ∃ W, w1.setCell ⟨g, k * 2, none⟩ (.string T1) = W := ⟨_, rfl⟩
        go_wp2_with fail
        try simp only [hW1] at hraw hgr1 hsz1 ⊢
        refine (markText_big (q + 1) W1 (by omega) (by omega)).mono ?_
        rintro e w2 ⟨rfl, hb2⟩
        have hraw2 : w2.ownsRow 0 48 2 (.slice (some ⟨g, 0, none⟩) n c) n ((pv (mkP (mA k0) ps k)).set (k * 2) (.string T1)) := raw_keep hraw hb2
        have r1 := World.ownsRow.cells hraw2 (g := g) rfl (k * 2 + 1) _ hcell1
        rw [add_at] at r1
        have r2 := World.ownsRow.frozenAt hraw2 (k * 2 + 1)
        obtain ⟨T2, hT2⟩ : ∃ T, mt (q + 1) = T := ⟨_, rfl⟩
        rw [hT2]
        have hst := (World.ownsRow.stored hraw2 (k * 2 + 1) (.string T2)).1
        rw [pv_set _ k (.string T1, .string T2) (by have := ho1.len; omega), show ((Value.string T1, Value.string T2) : VP) = mA k0 k from by unfold mA; rw [hq, hT1, hT2], mkP_set _ ps k (by rw [hn'.out]; exact hkn)] at hst
        have hgr' : w.grownBy (w2.setCell ⟨g, k * 2 + 1, none⟩ (.string T2)) (some g) := (hgr1.trans (gr_of_below hb2 _)).trans (gr_setC _ g (k * 2 + 1) _)
        clear ho hgr ho1 hb1 hT1 hT2 hraw hraw2 hgr1 hb2 hcell1
        go_wp2
        go_roundw
        case rel => exact ⟨k + 1, by omega, by go_num, by rw [show k0 + 2 * (k + 1) = q + 1 + 1 by omega]; go_num, hst, hgr'⟩
        case measure => simp [intOf]; omega
      · have hki : ¬ (k : Int) < (n : Int) := by omega
        go_wp2
        go_ret
        obtain rfl : k = n := by omega
        refine ⟨by show Ending.returned (.int .i64 (q : Int)) = _; rw [← hq]; first | rfl | simp, ?_, hgr⟩
        rw [mkP_all _ ps k hn'.out] at ho
        exact ho.q
end

section
open Go.RowKit
/-- v is a row of the call's own, at or behind B, of the bytes zs; nil, if there are none. -/
def OwnV (B : Nat) (w : World) (v : Value) (n : Nat) (zs : List Int) : Prop := w.ownsRow B 5 1 v n (zs.map (Value.int .u8))
theorem OwnV.len {B : Nat} {w : World} {v : Value} {n : Nat} {zs : List Int} (h : OwnV B w v n zs) : zs.length = n := by simpa using h.1
theorem OwnV.block {B : Nat} {w : World} {v : Value} {n k : Nat} {zs : List Int} (h : OwnV B w v n zs) (hk : v.ownBlock = some k) : B ≤ k ∧ ∃ cur, w.heap[k]? = some (.cells cur 5 (0, 0)) := by
  rcases h.2 with ⟨rfl, _⟩ | ⟨g, cap, cur, rfl, hb, hg, _⟩
  · simp [Value.ownBlock] at hk
  · simp [Value.ownBlock] at hk
    subst hk
    exact ⟨hb, cur, hg⟩
theorem OwnV.alloc {B : Nat} {w : World} {v : Value} {n : Nat} {zs : List Int} (h : OwnV B w v n zs) (o : Obj) : OwnV B (w.alloc o) v n zs := World.ownsRow.alloc h o
theorem Blk.row {B : Nat} {w w' : World} {v : Value} {n ad : Nat} {zs : List Int} {t : TypeId} {vs : Array Value} (h : Blk w ad t vs) (ht : t ≠ 5) (ho : OwnV B w v n zs) (hg : w.grownBy w' v.ownBlock) : Blk w' ad t vs := by
  refine (hg.block ad h.lt ?_).trans h
  intro e
  obtain ⟨_, cur, hc⟩ := ho.block e.symm
  rw [show w.heap[ad]? = _ from h] at hc
  simp at hc
  exact ht hc.2
theorem OwnV.some {B : Nat} {w : World} {v : Value} {n : Nat} {zs : List Int} (h : OwnV B w v n zs) (hn : n ≠ 0) : ∃ g c, v = .slice (some ⟨g, 0, none⟩) n c ∧ B ≤ g ∧ Own w g n c zs := by
  rcases h.2 with ⟨rfl, h0⟩ | ⟨g, cap, cur, rfl, hb, hg, rest⟩
  · exact absurd h0 hn
  · exact ⟨g, cap, rfl, hb, h.1, .inr ⟨g, cap, cur, rfl, Nat.zero_le _, hg, rest⟩⟩
end

section
open Go.RowKit
theorem row_at {e : TypeId} {B s n : Nat} {w : World} {v : Value} {xs : List Value} (h : w.ownsRow B e s v n xs) {g : Nat} (hg : v.ownBlock = some g) : B ≤ g ∧ ∃ cur, w.heap[g]? = some (.cells cur e (0, 0)) := by
  rcases h.2 with ⟨rfl, _⟩ | ⟨g', cap, cur, rfl, hb, hgg, _⟩
  · simp [Value.ownBlock] at hg
  · simp [Value.ownBlock] at hg
    subst hg
    exact ⟨hb, cur, hgg⟩
theorem row_ne {e e' : TypeId} {B B' s s' n n' : Nat} {w : World} {v v' : Value} {xs xs' : List Value} (h : w.ownsRow B e s v n xs) (h' : w.ownsRow B' e' s' v' n' xs') (he : e ≠ e') {g : Nat} (hg : v.ownBlock = some g) : v'.ownBlock ≠ some g := by
  intro hg'
  obtain ⟨_, c1, h1⟩ := row_at h hg
  obtain ⟨_, c2, h2⟩ := row_at h' hg'
  rw [h1] at h2
  simp at h2
  exact he h2.2
/-- A row is as it was where only another one grew. -/
theorem row_kept {e : TypeId} {B s n : Nat} {w w' : World} {v : Value} {xs : List Value} (h : w.ownsRow B e s v n xs) {r : Option Nat} (hg : w.grownBy w' r) (hne : ∀ g, v.ownBlock = some g → r ≠ some g) : w'.ownsRow B e s v n xs := by
  refine ⟨h.1, ?_⟩
  rcases h.2 with h' | ⟨g', cap, cur, rfl, hb, hgg, rest⟩
  · exact .inl h'
  · exact .inr ⟨g', cap, cur, rfl, hb, (hg.block g' (Array.getElem?_eq_some_iff.1 hgg).1 (fun e => hne g' rfl e.symm)).trans hgg, rest⟩
/-- All blocks but the three rows are as they were. -/
structure But (w w' : World) (r1 r2 r3 : Option Nat) : Prop where
  os : w'.os = w.os
  tape : w'.tape = w.tape
  output : w'.output = w.output
  size : w.heap.size ≤ w'.heap.size
  block : ∀ k, k < w.heap.size → some k ≠ r1 → some k ≠ r2 → some k ≠ r3 → w'.heap[k]? = w.heap[k]?
theorem OwnV.keep {B : Nat} {w w' : World} {v : Value} {n : Nat} {zs : List Int} (h : OwnV B w v n zs) (hb : Below w.heap.size w w') : OwnV B w' v n zs := by
  refine ⟨h.1, ?_⟩
  rcases h.2 with h' | ⟨g', cap', cur, h', hb', hgg, rest⟩
  · exact .inl h'
  · exact .inr ⟨g', cap', cur, h', hb', (hb.block g' (Array.getElem?_eq_some_iff.1 hgg).1).trans hgg, rest⟩
end

section
open Go.RowKit
theorem OwnV.drew {B : Nat} {w : World} {v : Value} {n : Nat} {zs : List Int} (h : OwnV B w v n zs) : OwnV B w.drew v n zs := h
theorem Blk.drew {w : World} {B : Nat} {t : TypeId} {vs : Array Value} (h : Blk w B t vs) : Blk w.drew B t vs := h
/-- All blocks of these types are as they were. -/
def KpT (W W' : World) (ts : List TypeId) : Prop := ∀ (B : Nat) (cur : Array Value) (t : TypeId) (fr : Nat × Nat), W.heap[B]? = some (Obj.cells cur t fr) → t ∈ ts → W'.heap[B]? = W.heap[B]?
theorem KpT.below {W W' : World} (h : Below W.heap.size W W') (ts : List TypeId) : KpT W W' ts := fun B _ _ _ hB _ => h.block B (Array.getElem?_eq_some_iff.1 hB).1
theorem KpT.grown {W W' : World} {R : Nat} {t : TypeId} {vs : Array Value} {ts : List TypeId} (h : W.grownBy W' (some R)) (hb : Blk W R t vs) (ht : t ∉ ts) : KpT W W' ts := fun B cur t' fr hB hm => h.block B (Array.getElem?_eq_some_iff.1 hB).1 (fun e => by
  simp at e
  subst e
  rw [show W.heap[B]? = _ from hb] at hB
  simp at hB
  exact ht (by rw [hB.2.1]; exact hm))
theorem KpT.row {W W' : World} {v : Value} {e : TypeId} {B s n : Nat} {xs : List Value} {ts : List TypeId} (h : W.grownBy W' v.ownBlock) (ho : W.ownsRow B e s v n xs) (ht : e ∉ ts) : KpT W W' ts := fun b cur t' fr hB hm => h.block b (Array.getElem?_eq_some_iff.1 hB).1 (fun q => by
  obtain ⟨_, c, hc⟩ := row_at ho q.symm
  rw [hc] at hB
  simp at hB
  exact ht (by rw [hB.2.1]; exact hm))
theorem KpT.but {W W' : World} {r1 r2 : Nat} {t1 t2 : TypeId} {u1 u2 : Array Value} {ts : List TypeId} (h : But W W' (some r1) (some r2) none) (h1 : Blk W r1 t1 u1) (h2 : Blk W r2 t2 u2) (n1 : t1 ∉ ts) (n2 : t2 ∉ ts) : KpT W W' ts := fun B cur t' fr hB hm => by
  refine h.block B (Array.getElem?_eq_some_iff.1 hB).1 (fun e => ?_) (fun e => ?_) (by simp)
  · simp at e
    subst e
    rw [show W.heap[B]? = _ from h1] at hB
    simp at hB
    exact n1 (by rw [hB.2.1]; exact hm)
  · simp at e
    subst e
    rw [show W.heap[B]? = _ from h2] at hB
    simp at hB
    exact n2 (by rw [hB.2.1]; exact hm)
theorem row_kp {W W' : World} {v : Value} {e : TypeId} {B s n : Nat} {xs : List Value} {ts : List TypeId} (h : W.ownsRow B e s v n xs) (k : KpT W W' ts) (ht : e ∈ ts) : W'.ownsRow B e s v n xs := by
  refine ⟨h.1, ?_⟩
  rcases h.2 with h' | ⟨g', cap', cur, h', hb', hgg, rest⟩
  · exact .inl h'
  · exact .inr ⟨g', cap', cur, h', hb', (k g' _ _ _ hgg ht).trans hgg, rest⟩
end

section
open Go.RowKit
/-- A list of bytes: nil, or the first n cells of a block, none of them held fast. -/
def RowB (w : World) (v : Value) (n : Nat) (zs : List Int) : Prop :=
  zs.length = n ∧ ((v = .slice none 0 0 ∧ n = 0) ∨ ∃ (g c : Nat) (cur : Array Value) (fr : Nat × Nat), v = .slice (some ⟨g, 0, none⟩) n c ∧ w.heap[g]? = some (.cells cur 5 fr) ∧ n ≤ cur.size ∧ (∀ i, i < n → cur[i]? = some (.int .u8 (zs.getD i 0))) ∧ (n ≤ fr.1 ∨ fr.2 = 0))
theorem RowB.nil (w : World) : RowB w (.slice none 0 0) 0 [] := ⟨rfl, .inl ⟨rfl, rfl⟩⟩
theorem OwnV.rowB {B : Nat} {w : World} {v : Value} {n : Nat} {zs : List Int} (h : OwnV B w v n zs) : RowB w v n zs := by
  have hl := h.len
  refine ⟨hl, ?_⟩
  rcases h.2 with h' | ⟨g, cap, cur, rfl, _, hg, hsz, hc⟩
  · exact .inl h'
  · have hcell := fun (i : Nat) (hi : i < n) => World.ownsRow.cellAt h i (by omega)
    have hcur : ∀ i : Nat, i < n → cur[i]? = Option.some (Value.int .u8 (zs.getD i 0)) := fun i hi => by
      have h2 := hcell i hi
      rw [cell_of_row w g i cur 5 (0, 0) hg] at h2
      rw [h2]
      have hz : i < zs.length := by omega
      simp [hz]
    refine .inr ⟨g, cap, cur, (0, 0), rfl, hg, ?_, hcur, .inr rfl⟩
    by_cases h0 : n = 0
    · omega
    · have h2 := hcur (n - 1) (by omega)
      have := (Array.getElem?_eq_some_iff.1 h2).1
      omega
theorem RowB.cell {w : World} {g c n : Nat} {zs : List Int} (h : RowB w (.slice (some ⟨g, 0, none⟩) n c) n zs) (i : Nat) (hi : i < n) : w.cell? ⟨g, i, none⟩ = some (.int .u8 (zs.getD i 0)) ∧ w.frozen? ⟨g, i, none⟩ = false := by
  rcases h.2 with ⟨h1, _⟩ | ⟨g', c', cur, fr, h1, hg, hsz, hc, hf⟩
  · simp at h1
  · simp only [Value.slice.injEq, Option.some.injEq, Addr.mk.injEq, and_true, true_and] at h1
    obtain ⟨rfl, rfl⟩ := h1
    rw [cell_of_row w g i cur 5 fr hg]
    refine ⟨hc i hi, ?_⟩
    obtain ⟨lo, hi'⟩ := fr
    simp only [World.frozen?, hg]
    simp only at hf
    rcases hf with hf | hf
    · have : ¬ lo ≤ i := by omega
      simp [this]
    · subst hf
      simp
theorem RowB.stored {w : World} {g c n : Nat} {zs : List Int} (h : RowB w (.slice (some ⟨g, 0, none⟩) n c) n zs) (k : Nat) (z : Int) (hk : k < n) : RowB (w.setCell ⟨g, k, none⟩ (.int .u8 z)) (.slice (some ⟨g, 0, none⟩) n c) n (zs.set k z) := by
  have hl := h.1
  refine ⟨by simpa using hl, ?_⟩
  rcases h.2 with ⟨h1, _⟩ | ⟨g', c', cur, fr, h1, hg, hsz, hc, hf⟩
  · simp at h1
  · simp only [Value.slice.injEq, Option.some.injEq, Addr.mk.injEq, and_true, true_and] at h1
    obtain ⟨rfl, rfl⟩ := h1
    refine .inr ⟨g, c, cur.setIfInBounds k (.int .u8 z), fr, rfl, by simp [World.setCell, Array.getElem?_modify, hg], by simpa using hsz, fun i hi => ?_, hf⟩
    by_cases e : k = i
    · subst e
      have hk2 : k < cur.size := by omega
      have hk3 : k < zs.length := by omega
      simp [hk2, hk3]
    · rw [Array.getElem?_setIfInBounds_ne e, hc i hi]
      simp [List.getD_eq_getElem?_getD, List.getElem?_set_ne e]
theorem RowB.block {w w' : World} {v : Value} {n : Nat} {zs : List Int} (h : RowB w v n zs) (hb : ∀ g, v.ownBlock = some g → w'.heap[g]? = w.heap[g]?) : RowB w' v n zs := by
  refine ⟨h.1, ?_⟩
  rcases h.2 with h1 | ⟨g, c, cur, fr, rfl, hg, rest⟩
  · exact .inl h1
  · exact .inr ⟨g, c, cur, fr, rfl, (hb g rfl).trans hg, rest⟩
theorem RowB.at_ {w : World} {v : Value} {n g : Nat} {zs : List Int} (h : RowB w v n zs) (hv : v.ownBlock = some g) : g < w.heap.size ∧ ∃ cur fr, w.heap[g]? = some (.cells cur 5 fr) := by
  rcases h.2 with ⟨rfl, _⟩ | ⟨g', c, cur, fr, rfl, hg, _⟩
  · simp [Value.ownBlock] at hv
  · simp [Value.ownBlock] at hv
    subst hv
    exact ⟨(Array.getElem?_eq_some_iff.1 hg).1, cur, fr, hg⟩
theorem RowB.form {w : World} {v : Value} {n : Nat} {zs : List Int} (h : RowB w v n zs) : ∃ a c, v = .slice a n c ∧ Rd w a zs := by
  have hl := h.1
  rcases h.2 with ⟨rfl, rfl⟩ | ⟨g, c, cur, fr, rfl, hg, _, hc, _⟩
  · exact ⟨none, 0, rfl, .inl (List.length_eq_zero_iff.1 hl)⟩
  · refine ⟨some ⟨g, 0, none⟩, c, rfl, .inr ⟨g, 0, rfl, fun i hi => ?_⟩⟩
    rw [Nat.zero_add, cell_of_row w g i cur 5 fr hg]
    exact hc i (by omega)
/-- All blocks but one are as they were. -/
theorem gr_block {w w' : World} {r : Option Nat} (h : w.grownBy w' r) {g : Nat} (hg : g < w.heap.size) (hne : r ≠ some g) : w'.heap[g]? = w.heap[g]? := h.block g hg (fun e => hne e.symm)
/-- The bytes behind k rounds of marking from k0 on. -/
def mksG (k0 : Nat) (zs : List Int) (k : Nat) : List Int := (List.range k).map (fun i : Nat => (((k0 + i : Nat) : Int)) % 256) ++ zs.drop k
theorem mksG_zero (k0 : Nat) (zs : List Int) : mksG k0 zs 0 = zs := by simp [mksG]
theorem mksG_set (k0 : Nat) (zs : List Int) (k : Nat) (h : k < zs.length) : (mksG k0 zs k).set k (((k0 + k : Nat) : Int) % 256) = mksG k0 zs (k + 1) := by
  unfold mksG
  rw [List.set_append_right _ _ (by simp)]
  have e : k - ((List.range k).map (fun i : Nat => (((k0 + i : Nat) : Int)) % 256)).length = 0 := by simp
  rw [e, List.drop_eq_getElem_cons h, List.set_cons_zero, List.range_succ, List.map_append, List.append_assoc]
  rfl
def marksG (k0 n : Nat) : List Int := (List.range n).map (fun i : Nat => (((k0 + i : Nat) : Int)) % 256)
theorem mksG_all (k0 : Nat) (zs : List Int) (n : Nat) (h : zs.length = n) : mksG k0 zs n = marksG k0 n := by subst h; simp [mksG, marksG]
set_option maxHeartbeats 800000 in
theorem markBG (v : Value) (n k0 : Nat) (zs : List Int) (w : World) (h1 : 1 ≤ k0) (hs : k0 + n ≤ 9999990) (hown : RowB w v n zs) :
    Calls Tryz.prog 50 #[v, .int .i64 k0] w fun e w' => e = .returned (.int .i64 ((k0 + n : Nat) : Int)) ∧ RowB w' v n (marksG k0 n) ∧ w.grownBy w' v.ownBlock := by
  rcases hown.2 with ⟨rfl, rfl⟩ | ⟨g, c, cur, fr, rfl, _⟩
  · go_enter Tryz.func50, Tryz.ntmps50
    go_wp2
    refine wp_loop_rounds 1 ?_; rw [rounds_succ]
    go_wp2
    go_ret
    exact ⟨rfl, RowB.nil _, gr_refl w _⟩
  · have hn' : Hid (zs.length = n) := hown.1
    go_enter Tryz.func50, Tryz.ntmps50
    go_wp2
    go_loopw [1, 5] (fun q i wr => ∃ k : Nat, k ≤ n ∧ i = .int .i64 k ∧ q = .int .i64 ((k0 + k : Nat) : Int) ∧ RowB wr (.slice (some ⟨g, 0, none⟩) n c) n (mksG k0 zs k) ∧ w.grownBy wr (some g)) (fun _ i _ => n - (intOf i).toNat)
    case atStart => exact ⟨0, Nat.zero_le _, rfl, rfl, by rw [mksG_zero]; exact hown, gr_refl w _⟩
    case round =>
      obtain ⟨k, hk, rfl, rfl, ho, hgr⟩ := hrel
      obtain ⟨q, hq⟩ : ∃ q, k0 + k = q := ⟨_, rfl⟩
      rw [hq]
      by_cases hkn : k < n
      · have hki : (k : Int) < (n : Int) := by omega
        obtain ⟨hcy, hfy⟩ := ho.cell k hkn
        have hst := ho.stored k ((q : Int) % 256) hkn
        rw [← hq, mksG_set k0 zs k (by rw [hn'.out]; exact hkn), hq] at hst
        have hgr' : w.grownBy (wr.setCell ⟨g, k, none⟩ (.int .u8 ((q : Int) % 256))) (some g) := hgr.trans (gr_setC wr g k _)
        generalize (mksG k0 zs k).getD k 0 = y at hcy
        clear ho hgr
        go_wp2
        go_roundw
        case rel => exact ⟨k + 1, by omega, by go_num, by rw [show k0 + (k + 1) = q + 1 by omega]; go_num, hst, hgr'⟩
        case measure => simp [intOf]; omega
      · have hki : ¬ (k : Int) < (n : Int) := by omega
        go_wp2
        go_ret
        obtain rfl : k = n := by omega
        rw [mksG_all k0 zs k hn'.out] at ho
        exact ⟨by show Ending.returned (.int .i64 (q : Int)) = _; rw [← hq]; first | rfl | simp, ho, hgr⟩
end

section
open Go.RowKit
/-- The lists of an inode: each nil or of the call's own, in blocks from B up to T. -/
structure InoG (w : World) (B T : Nat) (D : InoD) (v1 v2 v3 : Value) : Prop where
  data : OwnV 0 w v1 D.data.length D.data
  byt : Byt D.data
  ents : OwnQ 60 w v2 D.ents.length (eP D.ents)
  attrs : OwnQ 48 w v3 D.attrs.length (aP D.attrs)
  within : ∀ g, (v1.ownBlock = some g ∨ v2.ownBlock = some g ∨ v3.ownBlock = some g) → B ≤ g ∧ g < T
/-- The same, marked from k0 on. -/
structure InoGM (w : World) (B T k0 n1 n2 n3 : Nat) (v1 v2 v3 : Value) : Prop where
  data : RowB w v1 n1 (marksG k0 n1)
  ents : OwnQ 60 w v2 n2 ((List.range n2).map (mE (k0 + n1)))
  attrs : OwnQ 48 w v3 n3 ((List.range n3).map (mA (k0 + n1 + 2 * n2)))
  within : ∀ g, (v1.ownBlock = some g ∨ v2.ownBlock = some g ∨ v3.ownBlock = some g) → B ≤ g ∧ g < T
/-- All blocks outside the interval are as they were. -/
structure Out (B T : Nat) (w w' : World) : Prop where
  os : w'.os = w.os
  tape : w'.tape = w.tape
  output : w'.output = w.output
  size : w.heap.size ≤ w'.heap.size
  block : ∀ k, k < w.heap.size → (k < B ∨ T ≤ k) → w'.heap[k]? = w.heap[k]?
theorem Out.refl (B T : Nat) (w : World) : Out B T w w := ⟨rfl, rfl, rfl, Nat.le_refl _, fun _ _ _ => rfl⟩
theorem Out.trans {B T : Nat} {a b c : World} (h : Out B T a b) (k : Out B T b c) : Out B T a c :=
  ⟨k.os.trans h.os, k.tape.trans h.tape, k.output.trans h.output, Nat.le_trans h.size k.size, fun i hi ho => (k.block i (Nat.lt_of_lt_of_le hi h.size) ho).trans (h.block i hi ho)⟩
theorem Out.wider {B T B' T' : Nat} {a b : World} (h : Out B T a b) (h1 : B' ≤ B) (h2 : T ≤ T') : Out B' T' a b :=
  ⟨h.os, h.tape, h.output, h.size, fun i hi ho => h.block i hi (by omega)⟩
theorem Below.out {a b : World} (h : Below a.heap.size a b) (B T : Nat) : Out B T a b := ⟨h.os, h.tape, h.output, h.size, fun k hk _ => h.block k hk⟩
theorem Out.gr {B T : Nat} {a b : World} {r : Option Nat} (h : a.grownBy b r) (hr : ∀ g, r = some g → B ≤ g ∧ g < T) : Out B T a b :=
  ⟨h.os, h.tape, h.output, h.size, fun k hk ho => h.block k hk (fun e => by have := hr k e.symm; omega)⟩
theorem Below.outs {H B T : Nat} {w0 w w' : World} (h : Below H w0 w) (k : Out B T w w') (hB : H ≤ B) (hH : H ≤ w0.heap.size) : Below H w0 w' :=
  ⟨k.os.trans h.os, k.tape.trans h.tape, k.output.trans h.output, Nat.le_trans h.size k.size, fun i hi => (k.block i (Nat.lt_of_lt_of_le hi (Nat.le_trans hH h.size)) (.inl (by omega))).trans (h.block i hi)⟩
theorem Blk.outs {W W' : World} {b B T : Nat} {t : TypeId} {vs : Array Value} (h : Blk W b t vs) (k : Out B T W W') (hb : b < B ∨ T ≤ b) : Blk W' b t vs := (k.block b h.lt hb).trans h
theorem q_block {e : TypeId} {w w' : World} {v : Value} {n : Nat} {ps : List VP} (h : OwnQ e w v n ps) (hb : ∀ g, v.ownBlock = some g → w'.heap[g]? = w.heap[g]?) : OwnQ e w' v n ps := by
  refine ⟨h.1, ?_⟩
  rcases h.2 with h' | ⟨g', cap, cur, rfl, hb', hgg, rest⟩
  · exact .inl h'
  · exact .inr ⟨g', cap, cur, rfl, hb', (hb g' rfl).trans hgg, rest⟩
theorem ownV_same {B : Nat} {w w' : World} {v : Value} {n : Nat} {zs : List Int} (h : OwnV B w v n zs) (hb : ∀ g, v.ownBlock = some g → w'.heap[g]? = w.heap[g]?) : OwnV B w' v n zs := by
  refine ⟨h.1, ?_⟩
  rcases h.2 with h' | ⟨g', cap, cur, rfl, hb', hgg, rest⟩
  · exact .inl h'
  · exact .inr ⟨g', cap, cur, rfl, hb', (hb g' rfl).trans hgg, rest⟩
theorem InoG.kept {w w' : World} {B T : Nat} {D : InoD} {v1 v2 v3 : Value} (h : InoG w B T D v1 v2 v3) (k : ∀ b, B ≤ b → b < T → w'.heap[b]? = w.heap[b]?) : InoG w' B T D v1 v2 v3 :=
  ⟨ownV_same h.data fun g hg => k g (h.within g (.inl hg)).1 (h.within g (.inl hg)).2, h.byt, q_block h.ents fun g hg => k g (h.within g (.inr (.inl hg))).1 (h.within g (.inr (.inl hg))).2, q_block h.attrs fun g hg => k g (h.within g (.inr (.inr hg))).1 (h.within g (.inr (.inr hg))).2, h.within⟩
theorem InoGM.kept {w w' : World} {B T k0 n1 n2 n3 : Nat} {v1 v2 v3 : Value} (h : InoGM w B T k0 n1 n2 n3 v1 v2 v3) (k : ∀ b, B ≤ b → b < T → w'.heap[b]? = w.heap[b]?) : InoGM w' B T k0 n1 n2 n3 v1 v2 v3 :=
  ⟨h.data.block fun g hg => k g (h.within g (.inl hg)).1 (h.within g (.inl hg)).2, q_block h.ents fun g hg => k g (h.within g (.inr (.inl hg))).1 (h.within g (.inr (.inl hg))).2, q_block h.attrs fun g hg => k g (h.within g (.inr (.inr hg))).1 (h.within g (.inr (.inr hg))).2, h.within⟩
theorem InoG.keep {w w' : World} {B T : Nat} {D : InoD} {v1 v2 v3 : Value} (h : InoG w B T D v1 v2 v3) (hT : T ≤ w.heap.size) (hb : Below w.heap.size w w') : InoG w' B T D v1 v2 v3 := h.kept fun b _ hb' => hb.block b (by omega)
theorem InoGM.keep {w w' : World} {B T k0 n1 n2 n3 : Nat} {v1 v2 v3 : Value} (h : InoGM w B T k0 n1 n2 n3 v1 v2 v3) (hT : T ≤ w.heap.size) (hb : Below w.heap.size w w') : InoGM w' B T k0 n1 n2 n3 v1 v2 v3 := h.kept fun b _ hb' => hb.block b (by omega)
theorem InoG.outs {w w' : World} {B T B' T' : Nat} {D : InoD} {v1 v2 v3 : Value} (h : InoG w B T D v1 v2 v3) (hT : T ≤ w.heap.size) (k : Out B' T' w w') (hd : T ≤ B' ∨ T' ≤ B) : InoG w' B T D v1 v2 v3 := h.kept fun b h1 h2 => k.block b (by omega) (by omega)
theorem InoG.wider {w : World} {B T B' T' : Nat} {D : InoD} {v1 v2 v3 : Value} (h : InoG w B T D v1 v2 v3) (h1 : B' ≤ B) (h2 : T ≤ T') : InoG w B' T' D v1 v2 v3 := ⟨h.data, h.byt, h.ents, h.attrs, fun g hg => by have := h.within g hg; omega⟩
theorem InoG.form {w : World} {B T : Nat} {D : InoD} {v1 v2 v3 : Value} (h : InoG w B T D v1 v2 v3) : ∃ a1 c1 a2 c2 a3 c3, v1 = .slice a1 D.data.length c1 ∧ v2 = .slice a2 D.ents.length c2 ∧ v3 = .slice a3 D.attrs.length c3 ∧ InoRd w D a1 a2 a3 := by
  obtain ⟨a1, c1, e1, r1⟩ := (OwnV.rowB h.data).form
  have f : ∀ {e : TypeId} {v : Value} {n : Nat} {ps : List VP}, OwnQ e w v n ps → ∃ a c, v = .slice a n c ∧ RdP w a ps := fun {e v n ps} h => by
    rcases h.cases with ⟨rfl, rfl, rfl⟩ | ⟨g, c, rfl, ho⟩
    · exact ⟨none, 0, rfl, .inl rfl⟩
    · exact ⟨_, c, rfl, ho.rd⟩
  obtain ⟨a2, c2, e2, r2⟩ := f h.ents
  obtain ⟨a3, c3, e3, r3⟩ := f h.attrs
  exact ⟨a1, c1, a2, c2, a3, c3, e1, e2, e3, ⟨r1, h.byt, r2, r3⟩⟩
theorem rowB_ne {w : World} {v v' : Value} {n n' : Nat} {zs : List Int} {e : TypeId} {ps : List VP} (h : RowB w v n zs) (h' : OwnQ e w v' n' ps) (he : e ≠ 5) {g : Nat} (hg : v.ownBlock = some g) : v'.ownBlock ≠ some g := by
  intro hg'
  obtain ⟨_, c1, fr, h1⟩ := h.at_ hg
  obtain ⟨_, c2, h2⟩ := row_at h' hg'
  rw [h1] at h2
  simp at h2
  exact he h2.2.1.symm
end
end Go.Proofs.YtnadeelnjhollaaGreat
