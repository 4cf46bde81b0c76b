/-
  The laws' marks in an inode.
-/
import Derived.Test.YtnllhpeddoaehaaMarkI
import Derived.Test.YtnllhpeddoaehaaPuts
namespace Go.Proofs.Ytnllhpeddoaehaa
open Go.RowKit

/-- The lists of an inode are rows of the call's own, at or behind B; nil, where they are empty. -/
structure InoQ (w : World) (D : InoD) (v1 v2 v3 : Value) : Prop where
  data : OwnV 0 w v1 D.data.length D.data
  byt : Byt D.data
  ents : OwnQ 35 w v2 D.ents.length (eP D.ents)
  attrs : OwnQ 77 w v3 D.attrs.length (aP D.attrs)
/-- The three lists are marked from 1 on. -/
structure InoM (w : World) (n1 n2 n3 : Nat) (v1 v2 v3 : Value) : Prop where
  data : OwnV 0 w v1 n1 (marks n1)
  ents : OwnQ 35 w v2 n2 ((List.range n2).map (mE (n1 + 1)))
  attrs : OwnQ 77 w v3 n3 ((List.range n3).map (mA (n1 + 1 + 2 * n2)))

theorem row_at {e : TypeId} {B s n : Nat} {w : World} {v : Value} {xs : List Value} (h : w.ownsRow B e s v n xs) {g : Nat} (hg : v.ownBlock = some g) : B ≤ g ∧ ∃ cur, w.heap[g]? = some (.cells cur e (0, 0)) := by
  rcases h.2 with ⟨rfl, _⟩ | ⟨g', cap, cur, rfl, hb, hgg, _⟩
  · simp [Value.ownBlock] at hg
  · simp [Value.ownBlock] at hg
    subst hg
    exact ⟨hb, cur, hgg⟩
theorem row_ne {e e' : TypeId} {B B' s s' n n' : Nat} {w : World} {v v' : Value} {xs xs' : List Value} (h : w.ownsRow B e s v n xs) (h' : w.ownsRow B' e' s' v' n' xs') (he : e ≠ e') {g : Nat} (hg : v.ownBlock = some g) : v'.ownBlock ≠ some g := by
  intro hg'
  obtain ⟨_, c1, h1⟩ := row_at h hg
  obtain ⟨_, c2, h2⟩ := row_at h' hg'
  rw [h1] at h2
  simp at h2
  exact he h2.2
/-- A row is as it was where only another one grew. -/
theorem row_kept {e : TypeId} {B s n : Nat} {w w' : World} {v : Value} {xs : List Value} (h : w.ownsRow B e s v n xs) {r : Option Nat} (hg : w.grownBy w' r) (hne : ∀ g, v.ownBlock = some g → r ≠ some g) : w'.ownsRow B e s v n xs := by
  refine ⟨h.1, ?_⟩
  rcases h.2 with h' | ⟨g', cap, cur, rfl, hb, hgg, rest⟩
  · exact .inl h'
  · exact .inr ⟨g', cap, cur, rfl, hb, (hg.block g' (Array.getElem?_eq_some_iff.1 hgg).1 (fun e => hne g' rfl e.symm)).trans hgg, rest⟩

set_option maxHeartbeats 400000 in
theorem markB_any (v : Value) (n : Nat) (zs : List Int) (w : World) (hs : n ≤ 4000000) (hown : OwnV 0 w v n zs) :
    Calls Try.prog 35 #[v, .int .i64 1] w fun e w' => e = .returned (.int .i64 ((n : Int) + 1)) ∧ OwnV 0 w' v n (marks n) ∧ w.grownBy w' v.ownBlock := by
  by_cases h0 : v = .slice none 0 0
  · have hn : n = 0 := by
      rcases hown.2 with h | ⟨g, c, cur, e, _⟩
      · exact h.2
      · rw [h0] at e; simp at e
    subst h0 hn
    go_enter Try.func35, Try.ntmps35
    go_wp2
    refine wp_loop_rounds 1 ?_; rw [rounds_succ]
    go_wp2
    go_ret
    exact ⟨rfl, ownV_nil _ _, gr_refl w _⟩
  · rcases hown.2 with h | ⟨g, c, cur, rfl, hb, rest⟩
    · exact absurd h.1 h0
    · refine (mark_any g n c zs w hs ⟨hown.1, .inr ⟨g, c, cur, rfl, hb, rest⟩⟩).mono ?_
      rintro e w' ⟨h1, h2, h3⟩
      exact ⟨h1, h2, h3⟩
set_option maxHeartbeats 400000 in
theorem heldB_any (v : Value) (n : Nat) (w : World) (hs : n ≤ 4000000) (hown : OwnV 0 w v n (marks n)) :
    Calls Try.prog 90 #[v, .int .i64 1] w fun e w' => e = .returned (.int .i64 ((n : Int) + 1)) ∧ w' = w := by
  by_cases h0 : v = .slice none 0 0
  · have hn : n = 0 := by
      rcases hown.2 with h | ⟨g, c, cur, e, _⟩
      · exact h.2
      · rw [h0] at e; simp at e
    subst h0 hn
    go_enter Try.func90, Try.ntmps90
    go_wp2
    refine wp_loop_rounds 1 ?_; rw [rounds_succ]
    go_wp2
    go_ret
    exact ⟨rfl, rfl⟩
  · rcases hown.2 with h | ⟨g, c, cur, rfl, hb, rest⟩
    · exact absurd h.1 h0
    · exact held_any g n c w hs ⟨hown.1, .inr ⟨g, c, cur, rfl, hb, rest⟩⟩

/-- All blocks but the three rows are as they were. -/
structure But (w w' : World) (r1 r2 r3 : Option Nat) : Prop where
  os : w'.os = w.os
  tape : w'.tape = w.tape
  output : w'.output = w.output
  size : w.heap.size ≤ w'.heap.size
  block : ∀ k, k < w.heap.size → some k ≠ r1 → some k ≠ r2 → some k ≠ r3 → w'.heap[k]? = w.heap[k]?

theorem OwnV.keep {B : Nat} {w w' : World} {v : Value} {n : Nat} {zs : List Int} (h : OwnV B w v n zs) (hb : Below w.heap.size w w') : OwnV B w' v n zs := by
  refine ⟨h.1, ?_⟩
  rcases h.2 with h' | ⟨g', cap', cur, h', hb', hgg, rest⟩
  · exact .inl h'
  · exact .inr ⟨g', cap', cur, h', hb', (hb.block g' (Array.getElem?_eq_some_iff.1 hgg).1).trans hgg, rest⟩

set_option maxHeartbeats 1600000 in
theorem markIno_any (i1 i2 i3 : Int) (D : InoD) (v1 v2 v3 : Value) (w : World) (n1 n2 n3 : Nat) (h1 : D.data.length = n1) (h2 : D.ents.length = n2) (h3 : D.attrs.length = n3) (l1 : n1 ≤ 1048576) (l2 : n2 ≤ 1048576) (l3 : n3 ≤ 1048576) (hq : InoQ w D v1 v2 v3) :
    Calls Try.prog 36 #[.agg #[.int .i64 i1, .int .i64 i2, .int .i64 i3, v1, v2, v3], .int .i64 1] w fun e w' => e = .returned (.int .i64 ((n1 + 1 + 2 * n2 + 2 * n3 : Nat) : Int)) ∧ InoM w' n1 n2 n3 v1 v2 v3 ∧ But w w' v1.ownBlock v2.ownBlock v3.ownBlock := by
  obtain ⟨q1, q2, q3, q4⟩ := hq
  rw [h1] at q1
  rw [h2] at q3
  rw [h3] at q4
  have b0 : Below w.heap.size w (w.alloc (.cells #[.int .i64 i1, .int .i64 i2, .int .i64 i3, v1, v2, v3] 27)) := (Below.refl _ w).alloc (Nat.le_refl _) _
  have z0 : Blk (w.alloc (.cells #[.int .i64 i1, .int .i64 i2, .int .i64 i3, v1, v2, v3] 27)) w.heap.size 27 #[.int .i64 i1, .int .i64 i2, .int .i64 i3, v1, v2, v3] := Blk.new w _ _
  go_enter Try.func36, Try.ntmps36
  go_wp2_with fail
  obtain ⟨W0, hW0⟩ : ∃ W, w.alloc (.cells #[.int .i64 i1, .int .i64 i2, .int .i64 i3, v1, v2, v3] 27) = W := ⟨_, rfl⟩
  rw [hW0] at b0 z0 ⊢
  clear hW0
  have p1 := q1.keep b0
  have p3 := q3.keep b0
  have p4 := q4.keep b0
  refine (markB_any v1 n1 D.data W0 (by omega) p1).mono ?_
  rintro e w1 ⟨rfl, m1, g1⟩
  have s3 : OwnQ 35 w1 v2 n2 (eP D.ents) := row_kept p3 g1 (fun g hg hg' => row_ne p3 p1 (by decide) hg hg')
  have s4 : OwnQ 77 w1 v3 n3 (aP D.attrs) := row_kept p4 g1 (fun g hg hg' => row_ne p4 p1 (by decide) hg hg')
  have z1 : Blk w1 w.heap.size 27 #[.int .i64 i1, .int .i64 i2, .int .i64 i3, v1, v2, v3] := z0.row (by decide) p1 g1
  have c4 := z1.cell 4
  simp at c4
  go_wp2_with fail
  refine (markE_any v2 n2 (n1 + 1) (eP D.ents) w1 (by omega) (by omega) s3).mono ?_
  rintro e w2 ⟨rfl, m2, g2⟩
  have t1 : OwnV 0 w2 v1 n1 (marks n1) := row_kept m1 g2 (fun g hg hg' => row_ne m1 s3 (by decide) hg hg')
  have t4 : OwnQ 77 w2 v3 n3 (aP D.attrs) := row_kept s4 g2 (fun g hg hg' => row_ne s4 s3 (by decide) hg hg')
  have z2 : Blk w2 w.heap.size 27 #[.int .i64 i1, .int .i64 i2, .int .i64 i3, v1, v2, v3] := by
    refine (g2.block _ z1.lt ?_).trans z1
    intro e
    obtain ⟨_, cur, hc⟩ := row_at s3 e.symm
    rw [show w1.heap[w.heap.size]? = _ from z1] at hc
    simp at hc
  have c5 := z2.cell 5
  simp at c5
  clear c4
  obtain ⟨q, hqq⟩ : ∃ q, n1 + 1 + 2 * n2 = q := ⟨_, rfl⟩
  rw [hqq]
  go_wp2_with fail
  refine (markA_any v3 n3 q (aP D.attrs) w2 (by omega) (by omega) t4).mono ?_
  rintro e w3 ⟨rfl, m3, g3⟩
  have u1 : OwnV 0 w3 v1 n1 (marks n1) := row_kept t1 g3 (fun g hg hg' => row_ne t1 t4 (by decide) hg hg')
  have u2 : OwnQ 35 w3 v2 n2 ((List.range n2).map (mE (n1 + 1))) := row_kept m2 g3 (fun g hg hg' => row_ne m2 t4 (by decide) hg hg')
  rw [← hqq] at m3
  have hsz0 := b0.size
  have hsz1 := g1.size
  have hsz2 := g2.size
  have hsz3 := g3.size
  go_wp2
  go_ret
  refine ⟨by show Ending.returned (.int .i64 ((q + 2 * n3 : Nat) : Int)) = _; rw [← hqq], ⟨u1, u2, m3⟩, ⟨?_, ?_, ?_, by omega, fun k hk k1 k2 k3 => ?_⟩⟩
  · rw [g3.os, g2.os, g1.os, b0.os]
  · rw [g3.tape, g2.tape, g1.tape, b0.tape]
  · rw [g3.output, g2.output, g1.output, b0.output]
  · rw [g3.block k (by omega) k3, g2.block k (by omega) k2, g1.block k (by omega) k1, b0.block k hk]

set_option maxHeartbeats 1600000 in
theorem heldIno_any (i1 i2 i3 : Int) (v1 v2 v3 : Value) (w : World) (n1 n2 n3 : Nat) (l1 : n1 ≤ 1048576) (l2 : n2 ≤ 1048576) (l3 : n3 ≤ 1048576) (hq : InoM w n1 n2 n3 v1 v2 v3) :
    Calls Try.prog 37 #[.agg #[.int .i64 i1, .int .i64 i2, .int .i64 i3, v1, v2, v3], .int .i64 1] w fun e w' => e = .returned (.int .i64 ((n1 + 1 + 2 * n2 + 2 * n3 : Nat) : Int)) ∧ Below w.heap.size w w' := by
  obtain ⟨q1, q3, q4⟩ := hq
  have b0 : Below w.heap.size w (w.alloc (.cells #[.int .i64 i1, .int .i64 i2, .int .i64 i3, v1, v2, v3] 27)) := (Below.refl _ w).alloc (Nat.le_refl _) _
  have z0 : Blk (w.alloc (.cells #[.int .i64 i1, .int .i64 i2, .int .i64 i3, v1, v2, v3] 27)) w.heap.size 27 #[.int .i64 i1, .int .i64 i2, .int .i64 i3, v1, v2, v3] := Blk.new w _ _
  go_enter Try.func37, Try.ntmps37
  go_wp2_with fail
  obtain ⟨W0, hW0⟩ : ∃ W, w.alloc (.cells #[.int .i64 i1, .int .i64 i2, .int .i64 i3, v1, v2, v3] 27) = W := ⟨_, rfl⟩
  rw [hW0] at b0 z0 ⊢
  clear hW0
  refine (heldB_any v1 n1 W0 (by omega) (q1.keep b0)).mono ?_
  rintro e w1 ⟨rfl, rfl⟩
  have c4 := z0.cell 4
  simp at c4
  have hn1 : ¬ (n1 : Int) + 1 < 0 := by omega
  obtain ⟨q, hqq⟩ : ∃ q, n1 + 1 = q := ⟨_, rfl⟩
  have hqi : (n1 : Int) + 1 = (q : Int) := by omega
  rw [hqi] at hn1 ⊢
  rw [hqq] at q3 q4
  go_wp2_with fail
  refine (heldE_any v2 n2 q w1 (by omega) (by omega) (q3.keep b0)).mono ?_
  rintro e w2 ⟨rfl, b2⟩
  have B2 := b0.trans (b2.mono b0.size)
  have z2 := z0.keep b2
  have c5 := z2.cell 5
  simp at c5
  clear c4
  obtain ⟨r, hr⟩ : ∃ r, q + 2 * n2 = r := ⟨_, rfl⟩
  rw [hr] at q4 ⊢
  have hr0 : ¬ (r : Int) < 0 := by omega
  go_wp2_with fail
  refine (heldA_any v3 n3 r w2 (by omega) (by omega) (q4.keep B2)).mono ?_
  rintro e w3 ⟨rfl, b3⟩
  have hr1 : ¬ ((r + 2 * n3 : Nat) : Int) < 0 := by omega
  obtain ⟨t, ht⟩ : ∃ t, r + 2 * n3 = t := ⟨_, rfl⟩
  rw [ht] at hr1 ⊢
  go_wp2
  go_ret
  exact ⟨by show Ending.returned (.int .i64 (t : Int)) = _; rw [← ht, ← hr, ← hqq], B2.trans (b3.mono B2.size)⟩
end Go.Proofs.Ytnllhpeddoaehaa
