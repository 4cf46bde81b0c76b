/-
  Joined: ToTab, MarkGI, Fresh, CopyS, ByNum, AtS.
-/
import Derived.Test.YtbjfihabkpianaaGreatDoorJ02E
import Derived.Deep.AppendSrc
import Derived.Maps.OwnSet
import Derived.Maps.OwnOps
namespace Go.Proofs.YtbjfihabkpianaaGreatDoor
section
open Go.RowKit
theorem Tryz.infoInode : (Tryz.prog.info? 68).map (fun i => (i.zero, i.size, i.bytes)) = some (some (.agg #[.int .i64 0, .int .i64 0, .int .i64 0, .slice none 0 0, .slice none 0 0, .slice none 0 0]), 6, 96) := by kernel_rfl
theorem gr_more {w w1 : World} {g : Nat} (h : w.grownBy w1 (some g)) (j : Nat) (v : Value) : w.grownBy (w1.setCell ⟨g, j, none⟩ v) (some g) :=
  ⟨h.os, h.tape, h.output, by rw [size_setC]; exact h.size, fun m hm hk => (heap_setCell_other w1 ⟨g, j, none⟩ m v (fun e => hk (by simp [e]))).trans (h.block m hm hk)⟩
end

section
open Go.RowKit
/-- The lists of an inode: each nil or of the call's own, in blocks from B up to T. -/
structure InoG (w : World) (B T : Nat) (D : InoD) (v1 v2 v3 : Value) : Prop where
  data : OwnV 0 w v1 D.data.length D.data
  byt : Byt D.data
  ents : OwnQ 154 w v2 D.ents.length (eP D.ents)
  attrs : OwnQ 106 w v3 D.attrs.length (aP D.attrs)
  within : ∀ g, (v1.ownBlock = some g ∨ v2.ownBlock = some g ∨ v3.ownBlock = some g) → B ≤ g ∧ g < T
/-- The same, marked from k0 on. -/
structure InoGM (w : World) (B T k0 n1 n2 n3 : Nat) (v1 v2 v3 : Value) : Prop where
  data : RowB w v1 n1 (marksG k0 n1)
  ents : OwnQ 154 w v2 n2 ((List.range n2).map (mE (k0 + n1)))
  attrs : OwnQ 106 w v3 n3 ((List.range n3).map (mA (k0 + n1 + 2 * n2)))
  within : ∀ g, (v1.ownBlock = some g ∨ v2.ownBlock = some g ∨ v3.ownBlock = some g) → B ≤ g ∧ g < T
/-- All blocks outside the interval are as they were. -/
structure Out (B T : Nat) (w w' : World) : Prop where
  os : w'.os = w.os
  tape : w'.tape = w.tape
  output : w'.output = w.output
  size : w.heap.size ≤ w'.heap.size
  block : ∀ k, k < w.heap.size → (k < B ∨ T ≤ k) → w'.heap[k]? = w.heap[k]?
theorem Out.refl (B T : Nat) (w : World) : Out B T w w := ⟨rfl, rfl, rfl, Nat.le_refl _, fun _ _ _ => rfl⟩
theorem Out.trans {B T : Nat} {a b c : World} (h : Out B T a b) (k : Out B T b c) : Out B T a c :=
  ⟨k.os.trans h.os, k.tape.trans h.tape, k.output.trans h.output, Nat.le_trans h.size k.size, fun i hi ho => (k.block i (Nat.lt_of_lt_of_le hi h.size) ho).trans (h.block i hi ho)⟩
theorem Out.wider {B T B' T' : Nat} {a b : World} (h : Out B T a b) (h1 : B' ≤ B) (h2 : T ≤ T') : Out B' T' a b :=
  ⟨h.os, h.tape, h.output, h.size, fun i hi ho => h.block i hi (by omega)⟩
theorem Below.out {a b : World} (h : Below a.heap.size a b) (B T : Nat) : Out B T a b := ⟨h.os, h.tape, h.output, h.size, fun k hk _ => h.block k hk⟩
theorem Out.gr {B T : Nat} {a b : World} {r : Option Nat} (h : a.grownBy b r) (hr : ∀ g, r = some g → B ≤ g ∧ g < T) : Out B T a b :=
  ⟨h.os, h.tape, h.output, h.size, fun k hk ho => h.block k hk (fun e => by have := hr k e.symm; omega)⟩
theorem q_block {e : TypeId} {w w' : World} {v : Value} {n : Nat} {ps : List VP} (h : OwnQ e w v n ps) (hb : ∀ g, v.ownBlock = some g → w'.heap[g]? = w.heap[g]?) : OwnQ e w' v n ps := by
  refine ⟨h.1, ?_⟩
  rcases h.2 with h' | ⟨g', cap, cur, rfl, hb', hgg, rest⟩
  · exact .inl h'
  · exact .inr ⟨g', cap, cur, rfl, hb', (hb g' rfl).trans hgg, rest⟩
theorem ownV_same {B : Nat} {w w' : World} {v : Value} {n : Nat} {zs : List Int} (h : OwnV B w v n zs) (hb : ∀ g, v.ownBlock = some g → w'.heap[g]? = w.heap[g]?) : OwnV B w' v n zs := by
  refine ⟨h.1, ?_⟩
  rcases h.2 with h' | ⟨g', cap, cur, rfl, hb', hgg, rest⟩
  · exact .inl h'
  · exact .inr ⟨g', cap, cur, rfl, hb', (hb g' rfl).trans hgg, rest⟩
theorem InoG.kept {w w' : World} {B T : Nat} {D : InoD} {v1 v2 v3 : Value} (h : InoG w B T D v1 v2 v3) (k : ∀ b, B ≤ b → b < T → w'.heap[b]? = w.heap[b]?) : InoG w' B T D v1 v2 v3 :=
  ⟨ownV_same h.data fun g hg => k g (h.within g (.inl hg)).1 (h.within g (.inl hg)).2, h.byt, q_block h.ents fun g hg => k g (h.within g (.inr (.inl hg))).1 (h.within g (.inr (.inl hg))).2, q_block h.attrs fun g hg => k g (h.within g (.inr (.inr hg))).1 (h.within g (.inr (.inr hg))).2, h.within⟩
theorem InoGM.kept {w w' : World} {B T k0 n1 n2 n3 : Nat} {v1 v2 v3 : Value} (h : InoGM w B T k0 n1 n2 n3 v1 v2 v3) (k : ∀ b, B ≤ b → b < T → w'.heap[b]? = w.heap[b]?) : InoGM w' B T k0 n1 n2 n3 v1 v2 v3 :=
  ⟨h.data.block fun g hg => k g (h.within g (.inl hg)).1 (h.within g (.inl hg)).2, q_block h.ents fun g hg => k g (h.within g (.inr (.inl hg))).1 (h.within g (.inr (.inl hg))).2, q_block h.attrs fun g hg => k g (h.within g (.inr (.inr hg))).1 (h.within g (.inr (.inr hg))).2, h.within⟩
theorem InoG.keep {w w' : World} {B T : Nat} {D : InoD} {v1 v2 v3 : Value} (h : InoG w B T D v1 v2 v3) (hT : T ≤ w.heap.size) (hb : Below w.heap.size w w') : InoG w' B T D v1 v2 v3 := h.kept fun b _ hb' => hb.block b (by omega)
theorem InoGM.keep {w w' : World} {B T k0 n1 n2 n3 : Nat} {v1 v2 v3 : Value} (h : InoGM w B T k0 n1 n2 n3 v1 v2 v3) (hT : T ≤ w.heap.size) (hb : Below w.heap.size w w') : InoGM w' B T k0 n1 n2 n3 v1 v2 v3 := h.kept fun b _ hb' => hb.block b (by omega)
theorem InoG.wider {w : World} {B T B' T' : Nat} {D : InoD} {v1 v2 v3 : Value} (h : InoG w B T D v1 v2 v3) (h1 : B' ≤ B) (h2 : T ≤ T') : InoG w B' T' D v1 v2 v3 := ⟨h.data, h.byt, h.ents, h.attrs, fun g hg => by have := h.within g hg; omega⟩
theorem InoG.form {w : World} {B T : Nat} {D : InoD} {v1 v2 v3 : Value} (h : InoG w B T D v1 v2 v3) : ∃ a1 c1 a2 c2 a3 c3, v1 = .slice a1 D.data.length c1 ∧ v2 = .slice a2 D.ents.length c2 ∧ v3 = .slice a3 D.attrs.length c3 ∧ InoRd w D a1 a2 a3 := by
  obtain ⟨a1, c1, e1, r1⟩ := (OwnV.rowB h.data).form
  have f : ∀ {e : TypeId} {v : Value} {n : Nat} {ps : List VP}, OwnQ e w v n ps → ∃ a c, v = .slice a n c ∧ RdP w a ps := fun {e v n ps} h => by
    rcases h.cases with ⟨rfl, rfl, rfl⟩ | ⟨g, c, rfl, ho⟩
    · exact ⟨none, 0, rfl, .inl rfl⟩
    · exact ⟨_, c, rfl, ho.rd⟩
  obtain ⟨a2, c2, e2, r2⟩ := f h.ents
  obtain ⟨a3, c3, e3, r3⟩ := f h.attrs
  exact ⟨a1, c1, a2, c2, a3, c3, e1, e2, e3, ⟨r1, h.byt, r2, r3⟩⟩
end

section
open Go.RowKit
/-- What is appended to a fresh empty list is a list of its own. -/
theorem run_fresh (W : World) (B : Nat) (t ty e : TypeId) (i : TypeInfo) (z : Value) (size bytes : Nat) (ht : Tryz.prog.underlying t = some (.slice e)) (hi : Tryz.prog.info? e = some i) (hz : i.zero = some z) (hsize : i.size = size) (hby : i.bytes = bytes) (hzs : z.cells.size = size) (hsz : 0 < size)
    (g : Nat) (hB : B ≤ g) (hown : W.ownsRow B e size (.slice (some ⟨g, 0, none⟩) 0 0) 0 []) (a : Option Addr) (m c : Nat) (news : List Value) (hl : news.length = m * size) (hnews : news = [] ∨ ∃ ad, a = some ad ∧ ∀ j u, news[j]? = some u → W.cell? (ad.add j) = some u) (ha : m = 0 → a = none ∨ ∃ ad, a = some ad)
    (h1 : ∀ u ∈ news, u.oneCell' = true) (h63 : m ≤ 8000000) (hb64 : bytes ≤ 64) :
    ∃ g' c' W', (Builtin.append_ #[t, t] ty #[.slice (some ⟨g, 0, none⟩) 0 0, .slice a m c]).run Tryz.prog W = .ok (.slice (some ⟨g', 0, none⟩) m c') W' ∧ W'.ownsRow B e size (.slice (some ⟨g', 0, none⟩) m c') m news ∧ B ≤ g' ∧ g' < W'.heap.size ∧ Below W.heap.size W W' := by
  have hglt : g < W.heap.size := (World.ownsRow.lt hown g rfl).2
  by_cases h0 : m = 0
  · subst h0
    obtain rfl : news = [] := List.length_eq_zero_iff.1 (by simpa using hl)
    have hsrc : Src Tryz.prog i.size t (.slice a 0 c) 0 [] W := by
      rcases ha rfl with rfl | ⟨ad, rfl⟩
      · exact Src.ofNil W ht c
      · exact Src.ofSlice W ht ad 0 c [] (by simp) (fun j u hj => by simp at hj) (fun u hu => by simp at hu)
    have hr := run_append_room_src W t t ty e i ht hi g 0 0 0 (.slice a 0 c) 0 [] hsrc (Nat.le_refl _) (fun j hj => by simp at hj) (fun j hj => by simp at hj)
    refine ⟨g, 0, W, ?_, hown, hB, hglt, Below.refl _ _⟩
    rw [hr]
    rfl
  · have hne : news ≠ [] := fun e => by rw [e] at hl; have := Nat.mul_pos (show 0 < m by omega) hsz; simp only [List.length_nil] at hl; omega
    rcases hnews with e | ⟨ad, rfl, hn⟩
    · exact absurd e hne
    · obtain ⟨v', w', hr, h2, _, _, _⟩ := run_append_own_at (P := Tryz.prog) W B t ty e i z size bytes ht hi hz hsize hby hzs hsz _ 0 [] hown ad m c news hl hn h1 (by unfold maxLen; omega) (by have : (0 + m) * bytes ≤ 8000000 * 64 := Nat.mul_le_mul (by omega) hb64; omega) (by omega)
      have hsrc : Src Tryz.prog i.size t (.slice (some ad) m c) m news W := Src.ofSlice W ht ad m c news (by rw [hsize]; exact hl) hn h1
      have hcap : Builtin.nextslicecap (0 + m) 0 = m := by
        unfold Builtin.nextslicecap
        simp
        omega
      have hr2 := run_append_grow_src W t t ty e i z ht hi hz (some ⟨g, 0, none⟩) 0 0 [] (run_firstCells_some W.drew i.size 0 ⟨g, 0, none⟩ 0 0 [] (by simp) (fun j u hj => by simp at hj)) (.slice (some ad) m c) m news hsrc (by omega) (by omega) (by rw [hcap, hby]; have : m * bytes ≤ 8000000 * 64 := Nat.mul_le_mul h63 hb64; omega)
      rw [hr2] at hr
      simp only [Result.ok.injEq] at hr
      obtain ⟨rfl, rfl⟩ := hr
      rw [Nat.zero_add, List.nil_append] at h2
      refine ⟨W.heap.size, _, _, by rw [hr2]; simp only [Nat.zero_add, List.nil_append], h2, by omega, (World.ownsRow.lt h2 _ rfl).2, (Below.refl _ W).drew.alloc (Nat.le_refl _) _⟩
/-- The three kinds of lists. -/
theorem fresh_bytes (W : World) (B g : Nat) (a : Option Addr) (n c : Nat) (zs : List Int) (hn : zs.length = n) (hs : n ≤ 8000000) (hB : B ≤ g) (hown : W.ownsRow B 5 1 (.slice (some ⟨g, 0, none⟩) 0 0) 0 []) (hr : Rd W a zs) (ty : TypeId) :
    ∃ g' c' W', (Builtin.append_ #[42, 42] ty #[.slice (some ⟨g, 0, none⟩) 0 0, .slice a n c]).run Tryz.prog W = .ok (.slice (some ⟨g', 0, none⟩) n c') W' ∧ W'.ownsRow B 5 1 (.slice (some ⟨g', 0, none⟩) n c') n (zs.map (Value.int .u8)) ∧ B ≤ g' ∧ g' < W'.heap.size ∧ Below W.heap.size W W' := by
  obtain ⟨i0, hi, hz0, hz1, hz2⟩ := info_parts Tryz.info5
  refine run_fresh W B 42 ty 5 i0 (.int .u8 0) 1 1 Tryz.underlying42 hi hz0 hz1 hz2 rfl (by omega) g hB hown a n c (zs.map (Value.int .u8)) (by simp [hn]) ?_ (fun _ => by cases a with | none => exact .inl rfl | some ad => exact .inr ⟨ad, rfl⟩) (fun u hu => by obtain ⟨z, _, rfl⟩ := List.mem_map.1 hu; rfl) hs (by omega)
  rcases hr with rfl | ⟨b, off, rfl, hc⟩
  · exact .inl rfl
  · refine .inr ⟨_, rfl, fun j u hj => ?_⟩
    simp only [List.getElem?_map] at hj
    by_cases hjm : j < zs.length
    · have := hc j hjm
      rw [show (⟨b, off, none⟩ : Addr).add j = ⟨b, off + j, none⟩ by simp [Addr.add], this]
      rw [List.getElem?_eq_getElem hjm] at hj
      simpa [List.getElem?_eq_getElem hjm] using hj
    · rw [List.getElem?_eq_none (by omega)] at hj
      simp at hj
theorem eP_one (es : List (ByteArray × Int)) : ∀ p ∈ eP es, p.1.oneCell' = true ∧ p.2.oneCell' = true := by
  intro p hp
  obtain ⟨e, _, rfl⟩ := List.mem_map.1 hp
  exact ⟨rfl, rfl⟩
theorem empty_row (W : World) (B : Nat) (e : TypeId) (s : Nat) (hB : B ≤ W.heap.size) : (W.alloc (.cells #[] e)).ownsRow B e s (.slice (some ⟨W.heap.size, 0, none⟩) 0 0) 0 [] :=
  ⟨by simp, .inr ⟨W.heap.size, 0, #[], rfl, hB, heap_alloc_new W _, Nat.le_refl _, Nat.zero_le _, by simp, by simp⟩⟩
end

section
open Go.RowKit
/-- What a copy of an inode is: the same data, in lists of the call's own. -/
def CopyPost (w : World) (D : InoD) (e : Ending) (w' : World) : Prop :=
  ∃ (b1 : Option Addr) (d1 : Nat) (b2 : Option Addr) (d2 : Nat) (b3 : Option Addr) (d3 : Nat), e = .returned (.agg #[.int .i64 D.ino, .int .i64 D.kind, .int .i64 D.links, .slice b1 D.data.length d1, .slice b2 D.ents.length d2, .slice b3 D.attrs.length d3]) ∧
    InoG w' w.heap.size w'.heap.size D (.slice b1 D.data.length d1) (.slice b2 D.ents.length d2) (.slice b3 D.attrs.length d3) ∧ Below w.heap.size w w'
theorem row_zero' {B : Nat} {w : World} {e : TypeId} {s n : Nat} {v : Value} {xs : List Value} (h : w.ownsRow B e s v n xs) : w.ownsRow 0 e s v n xs := by
  refine ⟨h.1, ?_⟩
  rcases h.2 with h' | ⟨g, cap, cur, h', _, rest⟩
  · exact .inl h'
  · exact .inr ⟨g, cap, cur, h', Nat.zero_le _, rest⟩
theorem KpT.trans' {W W1 W' : World} {ts : List TypeId} (h : KpT W W1 ts) (k : KpT W1 W' ts) : KpT W W' ts := fun B cur t fr hB ht => by
  have e := h B cur t fr hB ht
  rw [k B cur t fr (e.trans hB) ht, e]
theorem KpT6 {W : World} {H : Nat} {xs : Array Value} (h : Blk W H 68 xs) (v0 v1 v2 v3 v4 v5 : Value) : KpT W ((((((W.setCell ⟨H, 0, none⟩ v0).setCell ⟨H, 1, none⟩ v1).setCell ⟨H, 2, none⟩ v2).setCell ⟨H, 3, none⟩ v3).setCell ⟨H, 4, none⟩ v4).setCell ⟨H, 5, none⟩ v5) [5, 154, 106] :=
  (((((KpT.grown (gr_setC _ H 0 v0) h (by decide)).trans' (KpT.grown (gr_setC _ H 1 v1) (h.set 0 v0) (by decide))).trans' (KpT.grown (gr_setC _ H 2 v2) ((h.set 0 v0).set 1 v1) (by decide))).trans' (KpT.grown (gr_setC _ H 3 v3) (((h.set 0 v0).set 1 v1).set 2 v2) (by decide))).trans' (KpT.grown (gr_setC _ H 4 v4) ((((h.set 0 v0).set 1 v1).set 2 v2).set 3 v3) (by decide))).trans' (KpT.grown (gr_setC _ H 5 v5) (((((h.set 0 v0).set 1 v1).set 2 v2).set 3 v3).set 4 v4) (by decide))
end

section
open Go.RowKit Go.Maps
/-- Where the first one stands. -/
def firstAt (xs : List Int) (x : Int) : Option Nat := xs.findIdx? (fun z => z == x)
theorem firstAt_snoc (xs : List Int) (y x : Int) : firstAt (xs ++ [y]) x = (firstAt xs x).or (if y = x then some xs.length else none) := by
  unfold firstAt
  rw [List.findIdx?_append]
  congr 1
  by_cases h : y = x
  · simp [h, List.findIdx?_cons]
  · simp [h, List.findIdx?_cons]
/-- The map tells of each number where the first one stands. -/
def MapIs (D : DataW Unit) (xs : List Int) : Prop :=
  IsMap D ∧ ∀ x : Int, Maps.has D (.int .i64 x) = (firstAt xs x).isSome ∧ ∀ i, firstAt xs x = some i → D.atKey (.int .i64 x) (.lit (.int .i64 0)) = .lit (.int .i64 (i : Int))
theorem mapIs_nil : MapIs (.map []) [] := ⟨isMap_empty, fun x => ⟨rfl, fun i hi => by simp [firstAt] at hi⟩⟩
theorem mapIs_old {D : DataW Unit} {xs : List Int} (h : MapIs D xs) {y : Int} (hy : Maps.has D (.int .i64 y) = true) : MapIs D (xs ++ [y]) := by
  refine ⟨h.1, fun x => ?_⟩
  obtain ⟨h1, h2⟩ := h.2 x
  rw [firstAt_snoc]
  by_cases e : y = x
  · subst e
    rw [(h.2 y).1] at hy
    obtain ⟨i, hi⟩ := Option.isSome_iff_exists.1 hy
    rw [hi] at h1 ⊢
    exact ⟨h1, fun j hj => h2 j (by rw [hi]; simpa using hj)⟩
  · rw [if_neg e, Option.or_none]
    exact ⟨h1, h2⟩
theorem mapIs_new {D : DataW Unit} {xs : List Int} (h : MapIs D xs) {y : Int} (hy : Maps.has D (.int .i64 y) = false) : MapIs (D.put (.int .i64 y) (.lit (.int .i64 (xs.length : Int)))) (xs ++ [y]) := by
  refine ⟨h.1.put _ _, fun x => ?_⟩
  obtain ⟨h1, h2⟩ := h.2 x
  rw [firstAt_snoc]
  by_cases e : y = x
  · subst e
    rw [(h.2 y).1] at hy
    have hn : firstAt xs y = none := by simpa using hy
    rw [hn, if_pos rfl, has_put_same h.1 (show WideAt.IsKeyLit (.int .i64 y) from trivial), atKey_put_same h.1 (show WideAt.IsKeyLit (.int .i64 y) from trivial)]
    exact ⟨rfl, fun i hi => by simp at hi; rw [hi]⟩
  · rw [if_neg e, Option.or_none, has_put_other (by simp; exact fun h => e h.symm), atKey_put_other (by simp; exact fun h => e h.symm)]
    exact ⟨h1, h2⟩
def inos (rs : List InoR) : List Int := rs.map fun r => r.D.ino
theorem inos_take (rs : List InoR) (k : Nat) (r : InoR) (h : rs[k]? = some r) : inos (rs.take (k + 1)) = inos (rs.take k) ++ [r.D.ino] := by
  unfold inos
  rw [List.take_add_one, h]
  simp
theorem inos_len (rs : List InoR) (k : Nat) (h : k ≤ rs.length) : (inos (rs.take k)).length = k := by simp [inos]; omega
theorem Tryz.keyInt : Keyed Tryz.prog 3 := int_keyed Tryz.underlying3
theorem Tryz.zeroInt (w : World) : (zeroValue 3).run Tryz.prog w = .ok (.int .i64 0) w := by kernel_rfl
theorem Tryz.makeHint (n : Int) (w : World) : (Instr.makeMap 157 (some (.int .i64 n))).run Tryz.prog w = .ok (.map (some w.heap.size)) (w.alloc (.map #[] 0)) := by
  simp [Instr.makeMap, run_underlying Tryz.underlying157, asInt, asIntOf, Result.andThen]
/-- What byNumber answers. -/
def ByPost (w : World) (n : Nat) (rs : List InoR) (e : Ending) (w' : World) : Prop :=
  ∃ (cnt : Nat) (D : DataW Unit), e = .returned (.map (some (w.heap.size + 1))) ∧ cnt ≤ n ∧ MapIs D (inos rs) ∧ w'.ownsMap Tryz.prog 3 (plainElem Tryz.prog 3) (w.heap.size + 1) cnt D ∧ Below w.heap.size w w'
set_option maxRecDepth 100000 in
set_option maxHeartbeats 1600000 in
theorem byNumber_any (a : Option Addr) (n cap : Nat) (nx : Int) (rs : List InoR) (w : World) (hn : rs.length = n) (hs : n ≤ 4000000) (hwf : ∀ r ∈ rs, (Lit.int .i64 r.D.ino).wf = true) (hr : RdI w a rs) :
    Calls Tryz.prog 112 #[.agg #[.slice a n cap, .int .i64 nx]] w fun e w' => ByPost w n rs e w' := by
  have hmm := Tryz.makeHint
  have B0 : Below w.heap.size w (w.alloc (.cells #[.slice a n cap, .int .i64 nx] 47)) := (Below.refl _ w).alloc (Nat.le_refl _) _
  have hs0 : (w.alloc (.cells #[.slice a n cap, .int .i64 nx] 47)).heap.size = w.heap.size + 1 := by simp
  by_cases h0 : n = 0
  · subst h0
    obtain rfl : rs = [] := List.length_eq_zero_iff.1 hn
    have z0 := Blk.new w 47 #[.slice a 0 cap, .int .i64 nx]
    have hown := World.ownsMap_made (H := Unit) (w.alloc (.cells #[.slice a 0 cap, .int .i64 nx] 47)) Tryz.prog 3 (plainElem Tryz.prog 3)
    rw [hs0] at hown
    go_enter Tryz.func112, Tryz.ntmps112
    go_wp2
    refine wp_loop_rounds 1 ?_; rw [rounds_succ]
    go_wp2
    go_ret
    exact ⟨0, _, rfl, Nat.le_refl _, mapIs_nil, hown, B0.alloc (by simp) _⟩
  · obtain ⟨b, off, rfl, hlt, hc⟩ := hr.lt (by intro h; subst h; simp at hn; omega)
    have hown := World.ownsMap_made (H := Unit) (w.alloc (.cells #[.slice (some ⟨b, off, none⟩) n cap, .int .i64 nx] 47)) Tryz.prog 3 (plainElem Tryz.prog 3)
    rw [hs0] at hown
    have hn' : Hid (rs.length = n) := hn
    have HC : Hid _ := hc
    have HW : Hid _ := hwf
    clear hr hn hc hwf
    go_enter Tryz.func112, Tryz.ntmps112
    go_wp2
    go_loopw [15] (fun i wr => ∃ (k cnt : Nat) (D : DataW Unit), k ≤ n ∧ i = .int .i64 k ∧ cnt ≤ k ∧ Hid (MapIs D (inos (rs.take k))) ∧ wr.ownsMap Tryz.prog 3 (plainElem Tryz.prog 3) (w.heap.size + 1) cnt D ∧ Below w.heap.size w wr) (fun i _ => n - (intOf i).toNat)
    case atStart => exact ⟨0, 0, _, Nat.zero_le _, rfl, Nat.le_refl _, mapIs_nil, hown, B0.alloc (by simp) _⟩
    case round =>
      obtain ⟨k, cnt, D, hk, rfl, hcnt, hM, ho, hB⟩ := hrel
      by_cases hkn : k < n
      · have hki : (k : Int) < (n : Int) := by omega
        obtain ⟨r, hrk⟩ : ∃ r, rs[k]? = some r := ⟨_, List.getElem?_eq_getElem (by rw [hn'.out]; exact hkn)⟩
        obtain ⟨x6, _⟩ := HC.out k r hrk
        have hw1 := HW.out r (List.mem_of_getElem? hrk)
        have hit := inos_take rs k r hrk
        have hil := inos_len rs k (by rw [hn'.out]; exact hk)
        obtain ⟨x0, x1, x2, x3, x4, x5⟩ := x6.keep hB hlt
        generalize r.D.ino = i1 at x0 hw1 hit
        generalize r.D.kind = i2 at x1
        generalize r.D.links = i3 at x2
        generalize r.D.data.length = n1 at x3
        generalize r.D.ents.length = n2 at x4
        generalize r.D.attrs.length = n3 at x5
        have HIT : Hid _ := hit
        have hwz := hB.size
        have hkey : keyOf Tryz.prog 3 (.int .i64 i1) = some (.int .i64 i1) := keyOf_int_mk Tryz.underlying3 hw1
        have hwk : (Lit.int .i64 (k : Int)).wf = true := WalkArith.wf_i64 (by omega)
        have hoA := ho.alloc (.cells #[.int .i64 i1, .int .i64 i2, .int .i64 i3, .slice r.a1 n1 r.c1, .slice r.a2 n2 r.c2, .slice r.a3 n3 r.c3] 68)
        have hBA := hB.alloc hwz (.cells #[.int .i64 i1, .int .i64 i2, .int .i64 i3, .slice r.a1 n1 r.c1, .slice r.a2 n2 r.c2, .slice r.a3 n3 r.c3] 68)
        have HO : Hid _ := ho
        clear hit x6 hrk ho
        cases hhas : Maps.has D (.int .i64 i1) with
        | true =>
          have hM' : Hid (MapIs D (inos (rs.take (k + 1)))) := by rw [HIT.out]; exact mapIs_old hM.out hhas
          go_wp2_with (first
            | (at_lookup; refine wpList_lookup_own_ok_int _ rfl _ _ 157 rfl 3 3 .i64 Tryz.keyInt Tryz.underlying157 Tryz.underlying3 (Tryz.zeroInt _) (w.heap.size + 1) cnt D rfl hoA _ _ rfl hkey ?_; intro c hat hwc; rw [hhas])
            | go_in)
          go_roundw
          case rel => exact ⟨k + 1, cnt, D, by omega, by go_num, by omega, hM', hoA, hBA⟩
          case measure => simp [intOf]; omega
        | false =>
          have hM' : Hid (MapIs (D.put (.int .i64 i1) (.lit (.int .i64 (k : Int)))) (inos (rs.take (k + 1)))) := by
            have := mapIs_new hM.out hhas
            rw [hil] at this
            rw [HIT.out]
            exact this
          go_wp2_with (first
            | (at_lookup; refine wpList_lookup_own_ok_int _ rfl _ _ 157 rfl 3 3 .i64 Tryz.keyInt Tryz.underlying157 Tryz.underlying3 (Tryz.zeroInt _) (w.heap.size + 1) cnt D rfl hoA _ _ rfl hkey ?_; intro c hat hwc; rw [hhas])
            | (at_mapUpdate; refine wpList_mapUpdate_own _ rfl _ _ _ 157 rfl 3 3 Tryz.keyInt Tryz.underlying157 _ (w.heap.size + 1) cnt D rfl hoA (by unfold maxLen; omega) _ _ _ rfl rfl hkey _ [] (plainElem_int Tryz.underlying3 hwk) ?_; intro w1 hown1 hgrow1)
            | go_in)
          go_roundw
          case rel => exact ⟨k + 1, cnt + 1, _, by omega, by go_num, by omega, hM', hown1, hBA.grown hgrow1 hBA.size (fun j hj => by cases hj; omega)⟩
          case measure => simp [intOf]; omega
      · have hki : ¬ (k : Int) < (n : Int) := by omega
        have hM' := hM.out
        rw [List.take_of_length_le (by rw [hn'.out]; omega)] at hM'
        have HM' : Hid _ := hM'
        clear hM'
        go_wp2
        go_ret
        exact ⟨cnt, D, rfl, by omega, HM'.out, ho, hB⟩
end

section
open Go.RowKit
theorem inos_cnt (rs : List InoR) : (inos rs).length = rs.length := by simp [inos]
theorem firstAt_in {rs : List InoR} {x : Int} {p : Nat} (h : firstAt (inos rs) x = some p) : p < rs.length := by
  unfold firstAt at h
  have := (List.findIdx?_eq_some_iff_getElem.1 h).1
  rw [inos_cnt] at this
  exact this
theorem inos_is {rs : List InoR} {k : Nat} {r : InoR} (h : rs[k]? = some r) : (inos rs)[k]? = some r.D.ino := by simp [inos, h]
/-- The inode that stands there, and whether one does. -/
def atD (rs : List InoR) (x : Int) : InoD := match firstAt (inos rs) x with | some p => (rs.getD p inoZ).D | none => inoZ.D
def atB (rs : List InoR) (x : Int) : Bool := (firstAt (inos rs) x).isSome
/-- What both InodeAt functions answer. -/
def AtPost (w : World) (rs : List InoR) (x : Int) (e : Ending) (w' : World) : Prop :=
  ∃ (b1 : Option Addr) (d1 : Nat) (b2 : Option Addr) (d2 : Nat) (b3 : Option Addr) (d3 : Nat), e = .returned (.tuple #[.agg #[.int .i64 (atD rs x).ino, .int .i64 (atD rs x).kind, .int .i64 (atD rs x).links, .slice b1 (atD rs x).data.length d1, .slice b2 (atD rs x).ents.length d2, .slice b3 (atD rs x).attrs.length d3], .bool (atB rs x)]) ∧
    InoG w' w.heap.size w'.heap.size (atD rs x) (.slice b1 (atD rs x).data.length d1) (.slice b2 (atD rs x).ents.length d2) (.slice b3 (atD rs x).attrs.length d3) ∧ Below w.heap.size w w'
end
end Go.Proofs.YtbjfihabkpianaaGreatDoor
