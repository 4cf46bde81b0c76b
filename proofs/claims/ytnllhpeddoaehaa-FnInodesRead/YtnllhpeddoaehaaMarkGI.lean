/-
  An inode whose lists lie within an interval of blocks: read, marked, held.
-/
import Derived.Test.YtnllhpeddoaehaaMarkG
import Derived.Test.YtnllhpeddoaehaaToTab
namespace Go.Proofs.Ytnllhpeddoaehaa
open Go.RowKit

/-- The lists of an inode: each nil or of the call's own, in blocks from B up to T. -/
structure InoG (w : World) (B T : Nat) (D : InoD) (v1 v2 v3 : Value) : Prop where
  data : RowB w v1 D.data.length D.data
  byt : Byt D.data
  ents : OwnQ 35 w v2 D.ents.length (eP D.ents)
  attrs : OwnQ 77 w v3 D.attrs.length (aP D.attrs)
  within : ∀ g, (v1.ownBlock = some g ∨ v2.ownBlock = some g ∨ v3.ownBlock = some g) → B ≤ g ∧ g < T
/-- The same, marked from k0 on. -/
structure InoGM (w : World) (B T k0 n1 n2 n3 : Nat) (v1 v2 v3 : Value) : Prop where
  data : RowB w v1 n1 (marksG k0 n1)
  ents : OwnQ 35 w v2 n2 ((List.range n2).map (mE (k0 + n1)))
  attrs : OwnQ 77 w v3 n3 ((List.range n3).map (mA (k0 + n1 + 2 * n2)))
  within : ∀ g, (v1.ownBlock = some g ∨ v2.ownBlock = some g ∨ v3.ownBlock = some g) → B ≤ g ∧ g < T
/-- All blocks outside the interval are as they were. -/
structure Out (B T : Nat) (w w' : World) : Prop where
  os : w'.os = w.os
  tape : w'.tape = w.tape
  output : w'.output = w.output
  size : w.heap.size ≤ w'.heap.size
  block : ∀ k, k < w.heap.size → (k < B ∨ T ≤ k) → w'.heap[k]? = w.heap[k]?
theorem Out.refl (B T : Nat) (w : World) : Out B T w w := ⟨rfl, rfl, rfl, Nat.le_refl _, fun _ _ _ => rfl⟩
theorem Out.trans {B T : Nat} {a b c : World} (h : Out B T a b) (k : Out B T b c) : Out B T a c :=
  ⟨k.os.trans h.os, k.tape.trans h.tape, k.output.trans h.output, Nat.le_trans h.size k.size, fun i hi ho => (k.block i (Nat.lt_of_lt_of_le hi h.size) ho).trans (h.block i hi ho)⟩
theorem Out.wider {B T B' T' : Nat} {a b : World} (h : Out B T a b) (h1 : B' ≤ B) (h2 : T ≤ T') : Out B' T' a b :=
  ⟨h.os, h.tape, h.output, h.size, fun i hi ho => h.block i hi (by omega)⟩
theorem Below.out {a b : World} (h : Below a.heap.size a b) (B T : Nat) : Out B T a b := ⟨h.os, h.tape, h.output, h.size, fun k hk _ => h.block k hk⟩
theorem Out.gr {B T : Nat} {a b : World} {r : Option Nat} (h : a.grownBy b r) (hr : ∀ g, r = some g → B ≤ g ∧ g < T) : Out B T a b :=
  ⟨h.os, h.tape, h.output, h.size, fun k hk ho => h.block k hk (fun e => by have := hr k e.symm; omega)⟩
theorem Below.outs {H B T : Nat} {w0 w w' : World} (h : Below H w0 w) (k : Out B T w w') (hB : H ≤ B) (hH : H ≤ w0.heap.size) : Below H w0 w' :=
  ⟨k.os.trans h.os, k.tape.trans h.tape, k.output.trans h.output, Nat.le_trans h.size k.size, fun i hi => (k.block i (Nat.lt_of_lt_of_le hi (Nat.le_trans hH h.size)) (.inl (by omega))).trans (h.block i hi)⟩
theorem Blk.outs {W W' : World} {b B T : Nat} {t : TypeId} {vs : Array Value} (h : Blk W b t vs) (k : Out B T W W') (hb : b < B ∨ T ≤ b) : Blk W' b t vs := (k.block b h.lt hb).trans h

theorem q_block {e : TypeId} {w w' : World} {v : Value} {n : Nat} {ps : List VP} (h : OwnQ e w v n ps) (hb : ∀ g, v.ownBlock = some g → w'.heap[g]? = w.heap[g]?) : OwnQ e w' v n ps := by
  refine ⟨h.1, ?_⟩
  rcases h.2 with h' | ⟨g', cap, cur, rfl, hb', hgg, rest⟩
  · exact .inl h'
  · exact .inr ⟨g', cap, cur, rfl, hb', (hb g' rfl).trans hgg, rest⟩
theorem InoG.kept {w w' : World} {B T : Nat} {D : InoD} {v1 v2 v3 : Value} (h : InoG w B T D v1 v2 v3) (k : ∀ b, B ≤ b → b < T → w'.heap[b]? = w.heap[b]?) : InoG w' B T D v1 v2 v3 :=
  ⟨h.data.block fun g hg => k g (h.within g (.inl hg)).1 (h.within g (.inl hg)).2, h.byt, q_block h.ents fun g hg => k g (h.within g (.inr (.inl hg))).1 (h.within g (.inr (.inl hg))).2, q_block h.attrs fun g hg => k g (h.within g (.inr (.inr hg))).1 (h.within g (.inr (.inr hg))).2, h.within⟩
theorem InoGM.kept {w w' : World} {B T k0 n1 n2 n3 : Nat} {v1 v2 v3 : Value} (h : InoGM w B T k0 n1 n2 n3 v1 v2 v3) (k : ∀ b, B ≤ b → b < T → w'.heap[b]? = w.heap[b]?) : InoGM w' B T k0 n1 n2 n3 v1 v2 v3 :=
  ⟨h.data.block fun g hg => k g (h.within g (.inl hg)).1 (h.within g (.inl hg)).2, q_block h.ents fun g hg => k g (h.within g (.inr (.inl hg))).1 (h.within g (.inr (.inl hg))).2, q_block h.attrs fun g hg => k g (h.within g (.inr (.inr hg))).1 (h.within g (.inr (.inr hg))).2, h.within⟩
theorem InoG.keep {w w' : World} {B T : Nat} {D : InoD} {v1 v2 v3 : Value} (h : InoG w B T D v1 v2 v3) (hT : T ≤ w.heap.size) (hb : Below w.heap.size w w') : InoG w' B T D v1 v2 v3 := h.kept fun b _ hb' => hb.block b (by omega)
theorem InoGM.keep {w w' : World} {B T k0 n1 n2 n3 : Nat} {v1 v2 v3 : Value} (h : InoGM w B T k0 n1 n2 n3 v1 v2 v3) (hT : T ≤ w.heap.size) (hb : Below w.heap.size w w') : InoGM w' B T k0 n1 n2 n3 v1 v2 v3 := h.kept fun b _ hb' => hb.block b (by omega)
theorem InoG.outs {w w' : World} {B T B' T' : Nat} {D : InoD} {v1 v2 v3 : Value} (h : InoG w B T D v1 v2 v3) (hT : T ≤ w.heap.size) (k : Out B' T' w w') (hd : T ≤ B' ∨ T' ≤ B) : InoG w' B T D v1 v2 v3 := h.kept fun b h1 h2 => k.block b (by omega) (by omega)
theorem InoG.wider {w : World} {B T B' T' : Nat} {D : InoD} {v1 v2 v3 : Value} (h : InoG w B T D v1 v2 v3) (h1 : B' ≤ B) (h2 : T ≤ T') : InoG w B' T' D v1 v2 v3 := ⟨h.data, h.byt, h.ents, h.attrs, fun g hg => by have := h.within g hg; omega⟩
theorem InoG.form {w : World} {B T : Nat} {D : InoD} {v1 v2 v3 : Value} (h : InoG w B T D v1 v2 v3) : ∃ a1 c1 a2 c2 a3 c3, v1 = .slice a1 D.data.length c1 ∧ v2 = .slice a2 D.ents.length c2 ∧ v3 = .slice a3 D.attrs.length c3 ∧ InoRd w D a1 a2 a3 := by
  obtain ⟨a1, c1, e1, r1⟩ := h.data.form
  have f : ∀ {e : TypeId} {v : Value} {n : Nat} {ps : List VP}, OwnQ e w v n ps → ∃ a c, v = .slice a n c ∧ RdP w a ps := fun {e v n ps} h => by
    rcases h.cases with ⟨rfl, rfl, rfl⟩ | ⟨g, c, rfl, ho⟩
    · exact ⟨none, 0, rfl, .inl rfl⟩
    · exact ⟨_, c, rfl, ho.rd⟩
  obtain ⟨a2, c2, e2, r2⟩ := f h.ents
  obtain ⟨a3, c3, e3, r3⟩ := f h.attrs
  exact ⟨a1, c1, a2, c2, a3, c3, e1, e2, e3, ⟨r1, h.byt, r2, r3⟩⟩
/-- eqInode of two inodes of the same data. -/
theorem eqInoG {w : World} {B T B' T' : Nat} {D : InoD} {v1 v2 v3 u1 u2 u3 : Value} (hs : InoSmall D) (h : InoG w B T D v1 v2 v3) (h' : InoG w B' T' D u1 u2 u3) :
    Calls Try.prog 33 #[.agg #[.int .i64 D.ino, .int .i64 D.kind, .int .i64 D.links, v1, v2, v3], .agg #[.int .i64 D.ino, .int .i64 D.kind, .int .i64 D.links, u1, u2, u3]] w fun e w' => e = .returned (.bool true) ∧ Below w.heap.size w w' := by
  obtain ⟨a1, c1, a2, c2, a3, c3, rfl, rfl, rfl, r⟩ := h.form
  obtain ⟨b1, d1, b2, d2, b3, d3, rfl, rfl, rfl, r'⟩ := h'.form
  exact eqInode_same D a1 a2 a3 b1 b2 b3 c1 c2 c3 d1 d2 d3 w hs.data hs.ents hs.attrs r r'
theorem rowB_ne {w : World} {v v' : Value} {n n' : Nat} {zs : List Int} {e : TypeId} {ps : List VP} (h : RowB w v n zs) (h' : OwnQ e w v' n' ps) (he : e ≠ 5) {g : Nat} (hg : v.ownBlock = some g) : v'.ownBlock ≠ some g := by
  intro hg'
  obtain ⟨_, c1, fr, h1⟩ := h.at_ hg
  obtain ⟨_, c2, h2⟩ := row_at h' hg'
  rw [h1] at h2
  simp at h2
  exact he h2.2.1.symm

set_option maxHeartbeats 1600000 in
theorem markInoG (i1 i2 i3 : Int) (B T k0 : Nat) (D : InoD) (v1 v2 v3 : Value) (w : World) (n1 n2 n3 : Nat) (h1 : D.data.length = n1) (h2 : D.ents.length = n2) (h3 : D.attrs.length = n3) (hk : 1 ≤ k0) (hl : k0 + n1 + 2 * n2 + 2 * n3 ≤ 9999990) (hT : T ≤ w.heap.size) (hq : InoG w B T D v1 v2 v3) :
    Calls Try.prog 36 #[.agg #[.int .i64 i1, .int .i64 i2, .int .i64 i3, v1, v2, v3], .int .i64 k0] w fun e w' => e = .returned (.int .i64 ((k0 + n1 + 2 * n2 + 2 * n3 : Nat) : Int)) ∧ InoGM w' B T k0 n1 n2 n3 v1 v2 v3 ∧ Out B T w w' := by
  have hwit := hq.within
  have b0 : Below w.heap.size w (w.alloc (.cells #[.int .i64 i1, .int .i64 i2, .int .i64 i3, v1, v2, v3] 27)) := (Below.refl _ w).alloc (Nat.le_refl _) _
  have z0 : Blk (w.alloc (.cells #[.int .i64 i1, .int .i64 i2, .int .i64 i3, v1, v2, v3] 27)) w.heap.size 27 #[.int .i64 i1, .int .i64 i2, .int .i64 i3, v1, v2, v3] := Blk.new w _ _
  have hq0 := hq.keep hT b0
  have HW : Hid _ := hwit
  clear hq hwit
  go_enter Try.func36, Try.ntmps36
  go_wp2_with fail
  obtain ⟨W0, hW0⟩ : ∃ W, w.alloc (.cells #[.int .i64 i1, .int .i64 i2, .int .i64 i3, v1, v2, v3] 27) = W := ⟨_, rfl⟩
  rw [hW0] at b0 z0 hq0 ⊢
  clear hW0
  obtain ⟨p1, p2, p3, p4, _⟩ := hq0
  rw [h1] at p1
  rw [h2] at p3
  rw [h3] at p4
  refine (markBG v1 n1 k0 D.data W0 hk (by omega) p1).mono ?_
  rintro e w1 ⟨rfl, m1, g1⟩
  have hlt : ∀ g, v1.ownBlock = some g ∨ v2.ownBlock = some g ∨ v3.ownBlock = some g → g < w.heap.size := fun g hg => by have := (HW.out g hg).2; omega
  have o1 : Out B T W0 w1 := Out.gr g1 (fun g hg => HW.out g (.inl hg))
  have s3 : OwnQ 35 w1 v2 n2 (eP D.ents) := q_block p3 fun g hg => gr_block g1 (Nat.lt_of_lt_of_le (hlt g (.inr (.inl hg))) b0.size) (fun e => rowB_ne p1 p3 (by decide) e hg)
  have s4 : OwnQ 77 w1 v3 n3 (aP D.attrs) := q_block p4 fun g hg => gr_block g1 (Nat.lt_of_lt_of_le (hlt g (.inr (.inr hg))) b0.size) (fun e => rowB_ne p1 p4 (by decide) e hg)
  have z1 : Blk w1 w.heap.size 27 #[.int .i64 i1, .int .i64 i2, .int .i64 i3, v1, v2, v3] := z0.outs o1 (.inr hT)
  have c4 := z1.cell 4
  simp at c4
  obtain ⟨q, hqq⟩ : ∃ q, k0 + n1 = q := ⟨_, rfl⟩
  rw [hqq]
  go_wp2_with fail
  refine (markE_any v2 n2 q (eP D.ents) w1 (by omega) (by omega) s3).mono ?_
  rintro e w2 ⟨rfl, m2, g2⟩
  have hs1 := g1.size
  have hs0 := b0.size
  have o2 : Out B T w1 w2 := Out.gr g2 (fun g hg => HW.out g (.inr (.inl hg)))
  have t1 : RowB w2 v1 n1 (marksG k0 n1) := m1.block fun g hg => gr_block g2 (by have := hlt g (.inl hg); omega) (fun e => rowB_ne m1 s3 (by decide) hg e)
  have t4 : OwnQ 77 w2 v3 n3 (aP D.attrs) := q_block s4 fun g hg => gr_block g2 (by have := hlt g (.inr (.inr hg)); omega) (fun e => row_ne s3 s4 (by decide) e hg)
  have z2 := z1.outs o2 (.inr hT)
  have c5 := z2.cell 5
  simp at c5
  clear c4
  obtain ⟨r, hr⟩ : ∃ r, q + 2 * n2 = r := ⟨_, rfl⟩
  rw [hr]
  go_wp2_with fail
  refine (markA_any v3 n3 r (aP D.attrs) w2 (by omega) (by omega) t4).mono ?_
  rintro e w3 ⟨rfl, m3, g3⟩
  have hs2 := g2.size
  have o3 : Out B T w2 w3 := Out.gr g3 (fun g hg => HW.out g (.inr (.inr hg)))
  have u1 : RowB w3 v1 n1 (marksG k0 n1) := t1.block fun g hg => gr_block g3 (by have := hlt g (.inl hg); omega) (fun e => rowB_ne t1 t4 (by decide) hg e)
  have u2 : OwnQ 35 w3 v2 n2 ((List.range n2).map (mE q)) := q_block m2 fun g hg => gr_block g3 (by have := hlt g (.inr (.inl hg)); omega) (fun e => row_ne t4 m2 (by decide) e hg)
  rw [← hr] at m3
  go_wp2
  go_ret
  refine ⟨by show Ending.returned (.int .i64 ((r + 2 * n3 : Nat) : Int)) = _; rw [← hr, ← hqq], ⟨u1, by rw [hqq]; exact u2, by rw [hqq]; exact m3, HW.out⟩, (Below.out b0 B T).trans (o1.trans (o2.trans o3))⟩

set_option maxHeartbeats 1600000 in
theorem heldInoG (i1 i2 i3 : Int) (B T k0 : Nat) (v1 v2 v3 : Value) (w : World) (n1 n2 n3 : Nat) (hk : 1 ≤ k0) (hl : k0 + n1 + 2 * n2 + 2 * n3 ≤ 9999990) (hT : T ≤ w.heap.size) (hq : InoGM w B T k0 n1 n2 n3 v1 v2 v3) :
    Calls Try.prog 37 #[.agg #[.int .i64 i1, .int .i64 i2, .int .i64 i3, v1, v2, v3], .int .i64 k0] w fun e w' => e = .returned (.int .i64 ((k0 + n1 + 2 * n2 + 2 * n3 : Nat) : Int)) ∧ Below w.heap.size w w' := by
  have b0 : Below w.heap.size w (w.alloc (.cells #[.int .i64 i1, .int .i64 i2, .int .i64 i3, v1, v2, v3] 27)) := (Below.refl _ w).alloc (Nat.le_refl _) _
  have z0 : Blk (w.alloc (.cells #[.int .i64 i1, .int .i64 i2, .int .i64 i3, v1, v2, v3] 27)) w.heap.size 27 #[.int .i64 i1, .int .i64 i2, .int .i64 i3, v1, v2, v3] := Blk.new w _ _
  have hq0 := hq.keep hT b0
  clear hq
  go_enter Try.func37, Try.ntmps37
  go_wp2_with fail
  obtain ⟨W0, hW0⟩ : ∃ W, w.alloc (.cells #[.int .i64 i1, .int .i64 i2, .int .i64 i3, v1, v2, v3] 27) = W := ⟨_, rfl⟩
  rw [hW0] at b0 z0 hq0 ⊢
  clear hW0
  obtain ⟨q1, q3, q4, _⟩ := hq0
  refine (heldBG v1 n1 k0 W0 hk (by omega) q1).mono ?_
  rintro e w1 ⟨rfl, hw⟩
  obtain rfl := hw.symm
  have c4 := z0.cell 4
  simp at c4
  obtain ⟨q, hqq⟩ : ∃ q, k0 + n1 = q := ⟨_, rfl⟩
  rw [hqq] at q3 q4 ⊢
  have hn1 : ¬ (q : Int) < 0 := by omega
  go_wp2_with fail
  refine (heldE_any v2 n2 q W0 (by omega) (by omega) q3).mono ?_
  rintro e w2 ⟨rfl, b2⟩
  have B2 := b0.trans (b2.mono b0.size)
  have z2 := z0.keep b2
  have c5 := z2.cell 5
  simp at c5
  clear c4
  obtain ⟨r, hr⟩ : ∃ r, q + 2 * n2 = r := ⟨_, rfl⟩
  rw [hr] at q4 ⊢
  have hr0 : ¬ (r : Int) < 0 := by omega
  go_wp2_with fail
  refine (heldA_any v3 n3 r w2 (by omega) (by omega) (q4.keep b2)).mono ?_
  rintro e w3 ⟨rfl, b3⟩
  have hr1 : ¬ ((r + 2 * n3 : Nat) : Int) < 0 := by omega
  obtain ⟨t, ht⟩ : ∃ t, r + 2 * n3 = t := ⟨_, rfl⟩
  rw [ht] at hr1 ⊢
  go_wp2
  go_ret
  exact ⟨by show Ending.returned (.int .i64 (t : Int)) = _; rw [← ht, ← hr, ← hqq], B2.trans (b3.mono B2.size)⟩
end Go.Proofs.Ytnllhpeddoaehaa
