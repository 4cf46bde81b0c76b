/-
  Joined: MarkI, Puts, MarkIno, Kept, MarkG, TabM.
-/
import Derived.Test.YtbjfihabkpianaaGreatDoorJ01E
import Derived.Deep.DeepCutAuto
import Derived.Lib.AppendStr
import Derived.Lib.ConvBytes
import Derived.Deep.RegionHeld3
import Derived.Deep.AppendLies
namespace Go.Proofs.YtbjfihabkpianaaGreatDoor
section
open Go.RowKit
def mE (k0 i : Nat) : VP := (.string (mt (k0 + 2 * i)), .int .i64 ((k0 + 2 * i + 1 : Nat) : Int))
def mA (k0 i : Nat) : VP := (.string (mt (k0 + 2 * i)), .string (mt (k0 + 2 * i + 1)))
/-- v is a row of the call's own of pairs; nil, if there are none. -/
def OwnQ (e : TypeId) (w : World) (v : Value) (n : Nat) (ps : List VP) : Prop := w.ownsRow 0 e 2 v n (pv ps)
theorem OwnQ.cases {e : TypeId} {w : World} {v : Value} {n : Nat} {ps : List VP} (h : OwnQ e w v n ps) : (v = .slice none 0 0 ∧ n = 0 ∧ ps = []) ∨ ∃ g c, v = .slice (some ⟨g, 0, none⟩) n c ∧ OwnP e w g n c ps := by
  have hl : ps.length = n := by have := h.1; rw [pv_length] at this; omega
  rcases h.2 with ⟨h1, h2⟩ | ⟨g, cap, cur, rfl, rest⟩
  · subst h2; exact .inl ⟨h1, rfl, List.length_eq_zero_iff.1 hl⟩
  · exact .inr ⟨g, cap, rfl, h.1, .inr ⟨g, cap, cur, rfl, rest⟩⟩
theorem OwnP.q {e : TypeId} {w : World} {g n c : Nat} {ps : List VP} (h : OwnP e w g n c ps) : OwnQ e w (.slice (some ⟨g, 0, none⟩) n c) n ps := h
theorem OwnQ.keep {e : TypeId} {w w' : World} {v : Value} {n : Nat} {ps : List VP} (h : OwnQ e w v n ps) (hb : Below w.heap.size w w') : OwnQ e w' v n ps := by
  refine ⟨h.1, ?_⟩
  rcases h.2 with h' | ⟨g', cap', cur, h', hb', hgg, rest⟩
  · exact .inl h'
  · exact .inr ⟨g', cap', cur, h', hb', (hb.block g' (Array.getElem?_eq_some_iff.1 hgg).1).trans hgg, rest⟩
end

section
open Go.RowKit
/-- A text's bytes as numbers. -/
def strZ (s : ByteArray) : List Int := s.data.toList.map fun b => (b.toNat : Int)
/-- v is a row of the call's own, at or behind B, of the bytes zs; nil, if there are none. -/
def OwnV (B : Nat) (w : World) (v : Value) (n : Nat) (zs : List Int) : Prop := w.ownsRow B 5 1 v n (zs.map (Value.int .u8))
theorem OwnV.len {B : Nat} {w : World} {v : Value} {n : Nat} {zs : List Int} (h : OwnV B w v n zs) : zs.length = n := by simpa using h.1
theorem OwnV.block {B : Nat} {w : World} {v : Value} {n k : Nat} {zs : List Int} (h : OwnV B w v n zs) (hk : v.ownBlock = some k) : B ≤ k ∧ ∃ cur, w.heap[k]? = some (.cells cur 5 (0, 0)) := by
  rcases h.2 with ⟨rfl, _⟩ | ⟨g, cap, cur, rfl, hb, hg, _⟩
  · simp [Value.ownBlock] at hk
  · simp [Value.ownBlock] at hk
    subst hk
    exact ⟨hb, cur, hg⟩
theorem OwnV.alloc {B : Nat} {w : World} {v : Value} {n : Nat} {zs : List Int} (h : OwnV B w v n zs) (o : Obj) : OwnV B (w.alloc o) v n zs := World.ownsRow.alloc h o
theorem Blk.row {B : Nat} {w w' : World} {v : Value} {n ad : Nat} {zs : List Int} {t : TypeId} {vs : Array Value} (h : Blk w ad t vs) (ht : t ≠ 5) (ho : OwnV B w v n zs) (hg : w.grownBy w' v.ownBlock) : Blk w' ad t vs := by
  refine (hg.block ad h.lt ?_).trans h
  intro e
  obtain ⟨_, cur, hc⟩ := ho.block e.symm
  rw [show w.heap[ad]? = _ from h] at hc
  simp at hc
  exact ht hc.2
theorem OwnV.some {B : Nat} {w : World} {v : Value} {n : Nat} {zs : List Int} (h : OwnV B w v n zs) (hn : n ≠ 0) : ∃ g c, v = .slice (some ⟨g, 0, none⟩) n c ∧ B ≤ g ∧ Own w g n c zs := by
  rcases h.2 with ⟨rfl, h0⟩ | ⟨g, cap, cur, rfl, hb, hg, rest⟩
  · exact absurd h0 hn
  · exact ⟨g, cap, rfl, hb, h.1, .inr ⟨g, cap, cur, rfl, Nat.zero_le _, hg, rest⟩⟩
end

section
open Go.RowKit
theorem row_at {e : TypeId} {B s n : Nat} {w : World} {v : Value} {xs : List Value} (h : w.ownsRow B e s v n xs) {g : Nat} (hg : v.ownBlock = some g) : B ≤ g ∧ ∃ cur, w.heap[g]? = some (.cells cur e (0, 0)) := by
  rcases h.2 with ⟨rfl, _⟩ | ⟨g', cap, cur, rfl, hb, hgg, _⟩
  · simp [Value.ownBlock] at hg
  · simp [Value.ownBlock] at hg
    subst hg
    exact ⟨hb, cur, hgg⟩
/-- A row is as it was where only another one grew. -/
theorem row_kept {e : TypeId} {B s n : Nat} {w w' : World} {v : Value} {xs : List Value} (h : w.ownsRow B e s v n xs) {r : Option Nat} (hg : w.grownBy w' r) (hne : ∀ g, v.ownBlock = some g → r ≠ some g) : w'.ownsRow B e s v n xs := by
  refine ⟨h.1, ?_⟩
  rcases h.2 with h' | ⟨g', cap, cur, rfl, hb, hgg, rest⟩
  · exact .inl h'
  · exact .inr ⟨g', cap, cur, rfl, hb, (hg.block g' (Array.getElem?_eq_some_iff.1 hgg).1 (fun e => hne g' rfl e.symm)).trans hgg, rest⟩
/-- All blocks but the three rows are as they were. -/
structure But (w w' : World) (r1 r2 r3 : Option Nat) : Prop where
  os : w'.os = w.os
  tape : w'.tape = w.tape
  output : w'.output = w.output
  size : w.heap.size ≤ w'.heap.size
  block : ∀ k, k < w.heap.size → some k ≠ r1 → some k ≠ r2 → some k ≠ r3 → w'.heap[k]? = w.heap[k]?
theorem OwnV.keep {B : Nat} {w w' : World} {v : Value} {n : Nat} {zs : List Int} (h : OwnV B w v n zs) (hb : Below w.heap.size w w') : OwnV B w' v n zs := by
  refine ⟨h.1, ?_⟩
  rcases h.2 with h' | ⟨g', cap', cur, h', hb', hgg, rest⟩
  · exact .inl h'
  · exact .inr ⟨g', cap', cur, h', hb', (hb.block g' (Array.getElem?_eq_some_iff.1 hgg).1).trans hgg, rest⟩
end

section
open Go.RowKit
theorem Blk.newAt {W : World} {ad : Nat} {t : TypeId} {vs : Array Value} (h : ad = W.heap.size) : Blk (W.alloc (.cells vs t)) ad t vs := by subst h; exact Blk.new W t vs
theorem OwnV.drew {B : Nat} {w : World} {v : Value} {n : Nat} {zs : List Int} (h : OwnV B w v n zs) : OwnV B w.drew v n zs := h
theorem Blk.drew {w : World} {B : Nat} {t : TypeId} {vs : Array Value} (h : Blk w B t vs) : Blk w.drew B t vs := h
/-- The bytes behind a text that was turned into a list of its own: of the block's cells the first are zs, none of them held fast. -/
def OwnB (W : World) (g n : Nat) (zs : List Int) : Prop :=
  zs.length = n ∧ ∃ cur fr, W.heap[g]? = some (.cells cur 5 fr) ∧ n ≤ cur.size ∧ (∀ i, i < n → cur[i]? = some (.int .u8 (zs.getD i 0))) ∧ n ≤ fr.1
theorem OwnB.lt {W : World} {g n : Nat} {zs : List Int} (h : OwnB W g n zs) : g < W.heap.size := by
  obtain ⟨_, cur, fr, hg, _⟩ := h
  exact (Array.getElem?_eq_some_iff.1 hg).1
theorem OwnB.cell {W : World} {g n : Nat} {zs : List Int} (h : OwnB W g n zs) (i : Nat) (hi : i < n) : W.cell? ⟨g, i, none⟩ = some (.int .u8 (zs.getD i 0)) := by
  obtain ⟨_, cur, fr, hg, _, hc, _⟩ := h
  rw [cell_of_row W g i cur 5 fr hg]
  exact hc i hi
theorem OwnB.rd {W : World} {g n : Nat} {zs : List Int} (h : OwnB W g n zs) : Rd W (some ⟨g, 0, none⟩) zs := by
  refine .inr ⟨g, 0, rfl, fun i hi => ?_⟩
  rw [Nat.zero_add]
  exact h.cell i (by rw [← h.1]; exact hi)
theorem OwnB.block {W W' : World} {g n : Nat} {zs : List Int} (h : OwnB W g n zs) (hb : W'.heap[g]? = W.heap[g]?) : OwnB W' g n zs := by
  obtain ⟨hl, cur, fr, hg, rest⟩ := h
  exact ⟨hl, cur, fr, hb.trans hg, rest⟩
theorem OwnB.keep {W W' : World} {g n : Nat} {zs : List Int} (h : OwnB W g n zs) (hb : Below W.heap.size W W') : OwnB W' g n zs := h.block (hb.block g h.lt)
theorem OwnB.kept {W W' : World} {g n : Nat} {zs : List Int} (h : OwnB W g n zs) {r : Option Nat} (hg : W.grownBy W' r) (hne : some g ≠ r) : OwnB W' g n zs := h.block (hg.block g h.lt hne)
/-- All blocks of these types are as they were. -/
def KpT (W W' : World) (ts : List TypeId) : Prop := ∀ (B : Nat) (cur : Array Value) (t : TypeId) (fr : Nat × Nat), W.heap[B]? = some (Obj.cells cur t fr) → t ∈ ts → W'.heap[B]? = W.heap[B]?
theorem KpT.below {W W' : World} (h : Below W.heap.size W W') (ts : List TypeId) : KpT W W' ts := fun B _ _ _ hB _ => h.block B (Array.getElem?_eq_some_iff.1 hB).1
theorem KpT.grown {W W' : World} {R : Nat} {t : TypeId} {vs : Array Value} {ts : List TypeId} (h : W.grownBy W' (some R)) (hb : Blk W R t vs) (ht : t ∉ ts) : KpT W W' ts := fun B cur t' fr hB hm => h.block B (Array.getElem?_eq_some_iff.1 hB).1 (fun e => by
  simp at e
  subst e
  rw [show W.heap[B]? = _ from hb] at hB
  simp at hB
  exact ht (by rw [hB.2.1]; exact hm))
theorem KpT.row {W W' : World} {v : Value} {e : TypeId} {B s n : Nat} {xs : List Value} {ts : List TypeId} (h : W.grownBy W' v.ownBlock) (ho : W.ownsRow B e s v n xs) (ht : e ∉ ts) : KpT W W' ts := fun b cur t' fr hB hm => h.block b (Array.getElem?_eq_some_iff.1 hB).1 (fun q => by
  obtain ⟨_, c, hc⟩ := row_at ho q.symm
  rw [hc] at hB
  simp at hB
  exact ht (by rw [hB.2.1]; exact hm))
theorem KpT.but {W W' : World} {r1 r2 : Nat} {t1 t2 : TypeId} {u1 u2 : Array Value} {ts : List TypeId} (h : But W W' (some r1) (some r2) none) (h1 : Blk W r1 t1 u1) (h2 : Blk W r2 t2 u2) (n1 : t1 ∉ ts) (n2 : t2 ∉ ts) : KpT W W' ts := fun B cur t' fr hB hm => by
  refine h.block B (Array.getElem?_eq_some_iff.1 hB).1 (fun e => ?_) (fun e => ?_) (by simp)
  · simp at e
    subst e
    rw [show W.heap[B]? = _ from h1] at hB
    simp at hB
    exact n1 (by rw [hB.2.1]; exact hm)
  · simp at e
    subst e
    rw [show W.heap[B]? = _ from h2] at hB
    simp at hB
    exact n2 (by rw [hB.2.1]; exact hm)
theorem Blk.kp {W W' : World} {B : Nat} {t : TypeId} {vs : Array Value} {ts : List TypeId} (h : Blk W B t vs) (k : KpT W W' ts) (ht : t ∈ ts) : Blk W' B t vs := (k B _ _ _ h ht).trans h
theorem OwnB.kp {W W' : World} {g n : Nat} {zs : List Int} {ts : List TypeId} (h : OwnB W g n zs) (k : KpT W W' ts) (ht : 5 ∈ ts) : OwnB W' g n zs := by
  have h' := h
  obtain ⟨_, cur, fr, hg, _⟩ := h'
  exact h.block (k g _ _ _ hg ht)
theorem row_kp {W W' : World} {v : Value} {e : TypeId} {B s n : Nat} {xs : List Value} {ts : List TypeId} (h : W.ownsRow B e s v n xs) (k : KpT W W' ts) (ht : e ∈ ts) : W'.ownsRow B e s v n xs := by
  refine ⟨h.1, ?_⟩
  rcases h.2 with h' | ⟨g', cap', cur, h', hb', hgg, rest⟩
  · exact .inl h'
  · exact .inr ⟨g', cap', cur, h', hb', (k g' _ _ _ hgg ht).trans hgg, rest⟩
/-- The data: nothing yet, or a list of its own. -/
def DQ (B : Nat) (W : World) (v : Value) (dz : List Int) : Prop := ∃ g c, v = .slice (some ⟨g, 0, none⟩) dz.length c ∧ B ≤ g ∧ OwnB W g dz.length dz
theorem DQ.kp {B : Nat} {W W' : World} {v : Value} {dz : List Int} {ts : List TypeId} (h : DQ B W v dz) (k : KpT W W' ts) (ht : 5 ∈ ts) : DQ B W' v dz := by
  obtain ⟨g, c, h1, h2, h3⟩ := h
  exact ⟨g, c, h1, h2, h3.kp k ht⟩
/-- What is known while an inode is read: the answer's cell, the inode's box, its lists. -/
structure GX (w0 W : World) (X : Nat) (xs : Array Value) (v1 : Value) (dz : List Int) (v2 : Value) (es : List (ByteArray × Int)) (v3 : Value) (ats : List (ByteArray × ByteArray)) : Prop where
  below : Below w0.heap.size w0 W
  res : Blk W w0.heap.size 68 #[.int .i64 0, .int .i64 0, .int .i64 0, .slice none 0 0, .slice none 0 0, .slice none 0 0]
  x : Blk W X 68 xs
  hX : w0.heap.size < X
  d : v1 = .slice none 0 0 ∨ DQ w0.heap.size W v1 dz
  e : W.ownsRow w0.heap.size 154 2 v2 es.length (pv (eP es))
  t : W.ownsRow w0.heap.size 106 2 v3 ats.length (pv (aP ats))
theorem GX.kp {w0 W W' : World} {X : Nat} {xs : Array Value} {v1 v2 v3 : Value} {dz : List Int} {es : List (ByteArray × Int)} {ats : List (ByteArray × ByteArray)} (h : GX w0 W X xs v1 dz v2 es v3 ats) (k : KpT W W' [68, 5, 154, 106]) (hb : Below w0.heap.size w0 W') : GX w0 W' X xs v1 dz v2 es v3 ats :=
  ⟨hb, h.res.kp k (by decide), h.x.kp k (by decide), h.hX, h.d.imp id (fun q => q.kp k (by decide)), row_kp h.e k (by decide), row_kp h.t k (by decide)⟩
theorem GX.keep {w0 W W' : World} {X : Nat} {xs : Array Value} {v1 v2 v3 : Value} {dz : List Int} {es : List (ByteArray × Int)} {ats : List (ByteArray × ByteArray)} (h : GX w0 W X xs v1 dz v2 es v3 ats) (hb : Below W.heap.size W W') : GX w0 W' X xs v1 dz v2 es v3 ats :=
  h.kp (KpT.below hb _) (h.below.trans (hb.mono h.below.size))
theorem GX.setX {w0 W : World} {X : Nat} {xs : Array Value} {v1 v2 v3 : Value} {dz : List Int} {es : List (ByteArray × Int)} {ats : List (ByteArray × ByteArray)} (h : GX w0 W X xs v1 dz v2 es v3 ats) (j : Nat) (v : Value) : GX w0 (W.setCell ⟨X, j, none⟩ v) X (xs.setIfInBounds j v) v1 dz v2 es v3 ats := by
  have k : KpT W (W.setCell ⟨X, j, none⟩ v) [5, 154, 106] := KpT.grown (gr_setC W X j v) h.x (by decide)
  exact ⟨h.below.setCell (p := ⟨X, j, none⟩) (Nat.le_of_lt h.hX) v, h.res.other (Nat.ne_of_lt h.hX) j v, h.x.set j v, h.hX, h.d.imp id (fun q => q.kp k (by decide)), row_kp h.e k (by decide), row_kp h.t k (by decide)⟩
theorem pv_snoc (ps : List VP) (p : VP) : pv (ps ++ [p]) = pv ps ++ [p.1, p.2] := by rw [pv_append]; rfl
theorem pair_news (w : World) (p : VP) (t : TypeId) : ∀ j u, [p.1, p.2][j]? = some u → (w.alloc (.cells #[p.1, p.2] t)).cell? ((⟨w.heap.size, 0, none⟩ : Addr).add j) = some u := by
  intro j u hj
  rw [add_at, (Blk.new w t #[p.1, p.2]).cell j]
  match j, hj with
  | 0, hj => simpa using hj
  | 1, hj => simpa using hj
  | j + 2, hj => simp at hj
theorem eP_snoc (es : List (ByteArray × Int)) (q : ByteArray × Int) : eP (es ++ [q]) = eP es ++ [(.string q.1, .int .i64 q.2)] := by simp [eP]
theorem aP_snoc (es : List (ByteArray × ByteArray)) (q : ByteArray × ByteArray) : aP (es ++ [q]) = aP es ++ [(.string q.1, .string q.2)] := by simp [aP]
theorem GX.appE {w0 W W' : World} {X : Nat} {xs : Array Value} {v1 v2 v3 : Value} {dz : List Int} {es : List (ByteArray × Int)} {ats : List (ByteArray × ByteArray)} (h : GX w0 W X xs v1 dz v2 es v3 ats) (o : Obj) (hg : (W.alloc o).grownBy W' v2.ownBlock) (v2' : Value) (es' : List (ByteArray × Int)) (ho : W'.ownsRow w0.heap.size 154 2 v2' es'.length (pv (eP es'))) : GX w0 W' X xs v1 dz v2' es' v3 ats := by
  have ha := h.keep ((Below.refl W.heap.size W).alloc (Nat.le_refl _) o)
  have k : KpT (W.alloc o) W' [68, 5, 106] := KpT.row hg ha.e (by decide)
  exact ⟨ha.below.grown hg ha.below.size (fun g hk => (row_at ha.e hk).1), ha.res.kp k (by decide), ha.x.kp k (by decide), ha.hX, ha.d.imp id (fun q => q.kp k (by decide)), ho, row_kp ha.t k (by decide)⟩
theorem GX.appA {w0 W W' : World} {X : Nat} {xs : Array Value} {v1 v2 v3 : Value} {dz : List Int} {es : List (ByteArray × Int)} {ats : List (ByteArray × ByteArray)} (h : GX w0 W X xs v1 dz v2 es v3 ats) (o : Obj) (hg : (W.alloc o).grownBy W' v3.ownBlock) (v3' : Value) (ats' : List (ByteArray × ByteArray)) (ho : W'.ownsRow w0.heap.size 106 2 v3' ats'.length (pv (aP ats'))) : GX w0 W' X xs v1 dz v2 es v3' ats' := by
  have ha := h.keep ((Below.refl W.heap.size W).alloc (Nat.le_refl _) o)
  have k : KpT (W.alloc o) W' [68, 5, 154] := KpT.row hg ha.t (by decide)
  exact ⟨ha.below.grown hg ha.below.size (fun g hk => (row_at ha.t hk).1), ha.res.kp k (by decide), ha.x.kp k (by decide), ha.hX, ha.d.imp id (fun q => q.kp k (by decide)), row_kp ha.e k (by decide), ho⟩
end

section
open Go.RowKit
/-- A list of bytes: nil, or the first n cells of a block, none of them held fast. -/
def RowB (w : World) (v : Value) (n : Nat) (zs : List Int) : Prop :=
  zs.length = n ∧ ((v = .slice none 0 0 ∧ n = 0) ∨ ∃ (g c : Nat) (cur : Array Value) (fr : Nat × Nat), v = .slice (some ⟨g, 0, none⟩) n c ∧ w.heap[g]? = some (.cells cur 5 fr) ∧ n ≤ cur.size ∧ (∀ i, i < n → cur[i]? = some (.int .u8 (zs.getD i 0))) ∧ (n ≤ fr.1 ∨ fr.2 = 0))
theorem RowB.nil (w : World) : RowB w (.slice none 0 0) 0 [] := ⟨rfl, .inl ⟨rfl, rfl⟩⟩
theorem DQ.rowB {B : Nat} {w : World} {v : Value} {dz : List Int} (h : DQ B w v dz) : RowB w v dz.length dz := by
  obtain ⟨g, c, h1, _, h2, cur, fr, h3, h4, h5, h6⟩ := h
  exact ⟨rfl, .inr ⟨g, c, cur, fr, h1, h3, h4, h5, .inl h6⟩⟩
theorem OwnV.rowB {B : Nat} {w : World} {v : Value} {n : Nat} {zs : List Int} (h : OwnV B w v n zs) : RowB w v n zs := by
  have hl := h.len
  refine ⟨hl, ?_⟩
  rcases h.2 with h' | ⟨g, cap, cur, rfl, _, hg, hsz, hc⟩
  · exact .inl h'
  · have hcell := fun (i : Nat) (hi : i < n) => World.ownsRow.cellAt h i (by omega)
    have hcur : ∀ i : Nat, i < n → cur[i]? = Option.some (Value.int .u8 (zs.getD i 0)) := fun i hi => by
      have h2 := hcell i hi
      rw [cell_of_row w g i cur 5 (0, 0) hg] at h2
      rw [h2]
      have hz : i < zs.length := by omega
      simp [hz]
    refine .inr ⟨g, cap, cur, (0, 0), rfl, hg, ?_, hcur, .inr rfl⟩
    by_cases h0 : n = 0
    · omega
    · have h2 := hcur (n - 1) (by omega)
      have := (Array.getElem?_eq_some_iff.1 h2).1
      omega
theorem RowB.cell {w : World} {g c n : Nat} {zs : List Int} (h : RowB w (.slice (some ⟨g, 0, none⟩) n c) n zs) (i : Nat) (hi : i < n) : w.cell? ⟨g, i, none⟩ = some (.int .u8 (zs.getD i 0)) ∧ w.frozen? ⟨g, i, none⟩ = false := by
  rcases h.2 with ⟨h1, _⟩ | ⟨g', c', cur, fr, h1, hg, hsz, hc, hf⟩
  · simp at h1
  · simp only [Value.slice.injEq, Option.some.injEq, Addr.mk.injEq, and_true, true_and] at h1
    obtain ⟨rfl, rfl⟩ := h1
    rw [cell_of_row w g i cur 5 fr hg]
    refine ⟨hc i hi, ?_⟩
    obtain ⟨lo, hi'⟩ := fr
    simp only [World.frozen?, hg]
    simp only at hf
    rcases hf with hf | hf
    · have : ¬ lo ≤ i := by omega
      simp [this]
    · subst hf
      simp
theorem RowB.stored {w : World} {g c n : Nat} {zs : List Int} (h : RowB w (.slice (some ⟨g, 0, none⟩) n c) n zs) (k : Nat) (z : Int) (hk : k < n) : RowB (w.setCell ⟨g, k, none⟩ (.int .u8 z)) (.slice (some ⟨g, 0, none⟩) n c) n (zs.set k z) := by
  have hl := h.1
  refine ⟨by simpa using hl, ?_⟩
  rcases h.2 with ⟨h1, _⟩ | ⟨g', c', cur, fr, h1, hg, hsz, hc, hf⟩
  · simp at h1
  · simp only [Value.slice.injEq, Option.some.injEq, Addr.mk.injEq, and_true, true_and] at h1
    obtain ⟨rfl, rfl⟩ := h1
    refine .inr ⟨g, c, cur.setIfInBounds k (.int .u8 z), fr, rfl, by simp [World.setCell, Array.getElem?_modify, hg], by simpa using hsz, fun i hi => ?_, hf⟩
    by_cases e : k = i
    · subst e
      have hk2 : k < cur.size := by omega
      have hk3 : k < zs.length := by omega
      simp [hk2, hk3]
    · rw [Array.getElem?_setIfInBounds_ne e, hc i hi]
      simp [List.getD_eq_getElem?_getD, List.getElem?_set_ne e]
theorem RowB.block {w w' : World} {v : Value} {n : Nat} {zs : List Int} (h : RowB w v n zs) (hb : ∀ g, v.ownBlock = some g → w'.heap[g]? = w.heap[g]?) : RowB w' v n zs := by
  refine ⟨h.1, ?_⟩
  rcases h.2 with h1 | ⟨g, c, cur, fr, rfl, hg, rest⟩
  · exact .inl h1
  · exact .inr ⟨g, c, cur, fr, rfl, (hb g rfl).trans hg, rest⟩
theorem RowB.form {w : World} {v : Value} {n : Nat} {zs : List Int} (h : RowB w v n zs) : ∃ a c, v = .slice a n c ∧ Rd w a zs := by
  have hl := h.1
  rcases h.2 with ⟨rfl, rfl⟩ | ⟨g, c, cur, fr, rfl, hg, _, hc, _⟩
  · exact ⟨none, 0, rfl, .inl (List.length_eq_zero_iff.1 hl)⟩
  · refine ⟨some ⟨g, 0, none⟩, c, rfl, .inr ⟨g, 0, rfl, fun i hi => ?_⟩⟩
    rw [Nat.zero_add, cell_of_row w g i cur 5 fr hg]
    exact hc i (by omega)
def marksG (k0 n : Nat) : List Int := (List.range n).map (fun i : Nat => (((k0 + i : Nat) : Int)) % 256)
end

section
open Go.RowKit
/-- An inode, and where its lists lie. -/
structure InoR where
  D : InoD
  a1 : Option Addr
  c1 : Nat
  a2 : Option Addr
  c2 : Nat
  a3 : Option Addr
  c3 : Nat
def InoR.v (r : InoR) : Value := inoV r.D r.a1 r.c1 r.a2 r.c2 r.a3 r.c3
def InoR.rd (w : World) (r : InoR) : Prop := InoRd w r.D r.a1 r.a2 r.a3
theorem InoR.rd.keep {w w' : World} {r : InoR} (h : r.rd w) (hb : Below w.heap.size w w') : r.rd w' := InoRd.keep h hb
/-- The six cells of an inode. -/
def InoR.six (r : InoR) : List Value := [.int .i64 r.D.ino, .int .i64 r.D.kind, .int .i64 r.D.links, .slice r.a1 r.D.data.length r.c1, .slice r.a2 r.D.ents.length r.c2, .slice r.a3 r.D.attrs.length r.c3]
/-- The cells of a list of inodes. -/
def iv (rs : List InoR) : List Value := rs.flatMap InoR.six
theorem iv_cons (r : InoR) (rs : List InoR) : iv (r :: rs) = r.six ++ iv rs := rfl
theorem iv_append (rs ts : List InoR) : iv (rs ++ ts) = iv rs ++ iv ts := by simp [iv]
theorem six_length (r : InoR) : r.six.length = 6 := rfl
theorem iv_length (rs : List InoR) : (iv rs).length = rs.length * 6 := by
  induction rs with
  | nil => rfl
  | cons r rs ih => rw [iv_cons, List.length_append, ih, six_length, List.length_cons]; omega
theorem iv_at (rs : List InoR) (i j : Nat) (r : InoR) (h : rs[i]? = some r) (hj : j < 6) : (iv rs)[i * 6 + j]? = r.six[j]? := by
  induction rs generalizing i with
  | nil => simp at h
  | cons q rs ih =>
    rw [iv_cons]
    cases i with
    | zero =>
      simp at h
      subst h
      rw [List.getElem?_append_left (by rw [six_length]; omega), Nat.zero_mul, Nat.zero_add]
    | succ i =>
      rw [List.getElem?_append_right (by rw [six_length]; omega), six_length, show (i + 1) * 6 + j - 6 = i * 6 + j by omega]
      exact ih i (by simpa using h)
theorem iv_set (rs : List InoR) (i : Nat) (r : InoR) (h : i < rs.length) : ((((((iv rs).set (i * 6) (.int .i64 r.D.ino)).set (i * 6 + 1) (.int .i64 r.D.kind)).set (i * 6 + 2) (.int .i64 r.D.links)).set (i * 6 + 3) (.slice r.a1 r.D.data.length r.c1)).set (i * 6 + 4) (.slice r.a2 r.D.ents.length r.c2)).set (i * 6 + 5) (.slice r.a3 r.D.attrs.length r.c3) = iv (rs.set i r) := by
  induction rs generalizing i with
  | nil => simp at h
  | cons q rs ih =>
    cases i with
    | zero => simp [iv_cons, InoR.six]
    | succ i =>
      have hl := six_length q
      have e : ∀ (l : List Value) (m : Nat) (x : Value), (q.six ++ l).set ((i + 1) * 6 + m) x = q.six ++ l.set (i * 6 + m) x := fun l m x => by
        rw [List.set_append_right _ _ (by rw [hl]; omega), hl, show (i + 1) * 6 + m - 6 = i * 6 + m by omega]
      have e0 : ∀ (l : List Value) (x : Value), (q.six ++ l).set ((i + 1) * 6) x = q.six ++ l.set (i * 6) x := fun l x => e l 0 x
      rw [iv_cons, e0, e, e, e, e, e, List.set_cons_succ, iv_cons, ih i (by simpa using h)]
/-- The six cells from an address on. -/
structure SixA (w : World) (b off : Nat) (r : InoR) : Prop where
  c0 : w.cell? ⟨b, off, none⟩ = some (.int .i64 r.D.ino)
  c1 : w.cell? ⟨b, off + 1, none⟩ = some (.int .i64 r.D.kind)
  c2 : w.cell? ⟨b, off + 2, none⟩ = some (.int .i64 r.D.links)
  c3 : w.cell? ⟨b, off + 3, none⟩ = some (.slice r.a1 r.D.data.length r.c1)
  c4 : w.cell? ⟨b, off + 4, none⟩ = some (.slice r.a2 r.D.ents.length r.c2)
  c5 : w.cell? ⟨b, off + 5, none⟩ = some (.slice r.a3 r.D.attrs.length r.c3)
theorem SixA.keep {w w' : World} {b off B : Nat} {r : InoR} (h : SixA w b off r) (hb : Below B w w') (hlt : b < B) : SixA w' b off r :=
  ⟨(hb.cell hlt).trans h.c0, (hb.cell hlt).trans h.c1, (hb.cell hlt).trans h.c2, (hb.cell hlt).trans h.c3, (hb.cell hlt).trans h.c4, (hb.cell hlt).trans h.c5⟩
theorem SixA.lt {w : World} {b off : Nat} {r : InoR} (h : SixA w b off r) : b < w.heap.size := World.block_lt_of_cell? w _ h.c0
/-- The inodes rs can be read from the address a on. -/
def RdI (w : World) (a : Option Addr) (rs : List InoR) : Prop :=
  rs = [] ∨ ∃ b off, a = some ⟨b, off, none⟩ ∧ ∀ i r, rs[i]? = some r → SixA w b (off + i * 6) r ∧ r.rd w
theorem RdI.lt {w : World} {a : Option Addr} {rs : List InoR} (h : RdI w a rs) (hz : rs ≠ []) : ∃ b off, a = some ⟨b, off, none⟩ ∧ b < w.heap.size ∧ ∀ i r, rs[i]? = some r → SixA w b (off + i * 6) r ∧ r.rd w := by
  rcases h with h | ⟨b, off, rfl, hc⟩
  · exact absurd h hz
  · obtain ⟨r, l, rfl⟩ := List.exists_cons_of_ne_nil hz
    exact ⟨b, off, rfl, (hc 0 r rfl).1.lt, hc⟩
theorem RdI.keep {w w' : World} {a : Option Addr} {rs : List InoR} (h : RdI w a rs) (hb : Below w.heap.size w w') : RdI w' a rs := by
  by_cases hz : rs = []
  · exact .inl hz
  · obtain ⟨b, off, rfl, hlt, hc⟩ := h.lt hz
    exact .inr ⟨b, off, rfl, fun i r hi => ⟨(hc i r hi).1.keep hb hlt, (hc i r hi).2.keep hb⟩⟩
/-- The block g is a row of inodes of the call's own. -/
def OwnI (w : World) (g n cap : Nat) (rs : List InoR) : Prop := w.ownsRow 0 68 6 (.slice (some ⟨g, 0, none⟩) n cap) n (iv rs)
theorem OwnI.len {w : World} {g n cap : Nat} {rs : List InoR} (h : OwnI w g n cap rs) : rs.length = n := by
  have := h.1
  rw [iv_length] at this
  omega
theorem OwnI.lt {w : World} {g n cap : Nat} {rs : List InoR} (h : OwnI w g n cap rs) : g < w.heap.size := (World.ownsRow.lt h g rfl).2
theorem OwnI.keep {w w' : World} {g n cap : Nat} {rs : List InoR} (h : OwnI w g n cap rs) (hb : Below w.heap.size w w') : OwnI w' g n cap rs := by
  have hlt := h.lt
  refine ⟨h.1, ?_⟩
  rcases h.2 with ⟨h', _⟩ | ⟨g', cap', cur, h', hb', hgg, rest⟩
  · simp at h'
  · refine .inr ⟨g', cap', cur, h', hb', ?_, rest⟩
    rw [hb.block g' (Array.getElem?_eq_some_iff.1 hgg).1]
    exact hgg
theorem OwnI.kept {w w' : World} {g n cap g2 : Nat} {rs : List InoR} (h : OwnI w g n cap rs) (hg : w.grownBy w' (some g2)) (hne : g ≠ g2) : OwnI w' g n cap rs := by
  refine ⟨h.1, ?_⟩
  rcases h.2 with ⟨h', _⟩ | ⟨g', cap', cur, h', hb', hgg, rest⟩
  · simp at h'
  · refine .inr ⟨g', cap', cur, h', hb', ?_, rest⟩
    simp only [Value.slice.injEq, Option.some.injEq, Addr.mk.injEq, and_true, true_and] at h'
    obtain ⟨rfl, rfl⟩ := h'
    rw [hg.block g (Array.getElem?_eq_some_iff.1 hgg).1 (by simpa using hne)]
    exact hgg
theorem OwnI.frozen {w : World} {g n cap : Nat} {rs : List InoR} (h : OwnI w g n cap rs) (i : Nat) : w.frozen? ⟨g, i, none⟩ = false := World.ownsRow.frozenAt h i
theorem OwnI.cell {w : World} {g n cap : Nat} {rs : List InoR} (h : OwnI w g n cap rs) (i j : Nat) (r : InoR) (hi : rs[i]? = some r) (hj : j < 6) : w.cell? ⟨g, i * 6 + j, none⟩ = r.six[j]? := by
  have hl := h.len
  have h2 := (List.getElem?_eq_some_iff.1 hi).1
  rw [World.ownsRow.cellAt h (i * 6 + j) (by omega)]
  exact iv_at rs i j r hi hj
theorem OwnI.six {w : World} {g n cap : Nat} {rs : List InoR} (h : OwnI w g n cap rs) (i : Nat) (r : InoR) (hi : rs[i]? = some r) : SixA w g (i * 6) r :=
  ⟨h.cell i 0 r hi (by omega), h.cell i 1 r hi (by omega), h.cell i 2 r hi (by omega), h.cell i 3 r hi (by omega), h.cell i 4 r hi (by omega), h.cell i 5 r hi (by omega)⟩
/-- The lists of an inode are rows of the call's own, at or behind B. -/
def InoR.own (w : World) (B : Nat) (r : InoR) : Prop := ∃ g1 g2 g3, r.a1 = some ⟨g1, 0, none⟩ ∧ r.a2 = some ⟨g2, 0, none⟩ ∧ r.a3 = some ⟨g3, 0, none⟩ ∧ B ≤ g1 ∧ B ≤ g2 ∧ B ≤ g3 ∧ InoOwn w r.D g1 r.c1 g2 r.c2 g3 r.c3
theorem InoR.own.rd {w : World} {B : Nat} {r : InoR} (h : r.own w B) : r.rd w := by
  obtain ⟨g1, g2, g3, h1, h2, h3, _, _, _, ho⟩ := h
  unfold InoR.rd
  rw [h1, h2, h3]
  exact ho.rd
theorem InoR.own.keep {w w' : World} {B : Nat} {r : InoR} (h : r.own w B) (hb : Below w.heap.size w w') : r.own w' B := by
  obtain ⟨g1, g2, g3, h1, h2, h3, k1, k2, k3, ho⟩ := h
  exact ⟨g1, g2, g3, h1, h2, h3, k1, k2, k3, ho.keep hb⟩
theorem InoR.own.kept {w w' : World} {B g : Nat} {r : InoR} (h : r.own w B) (hg : w.grownBy w' (some g)) (hlt : g < B) : r.own w' B := by
  obtain ⟨g1, g2, g3, h1, h2, h3, k1, k2, k3, ho⟩ := h
  exact ⟨g1, g2, g3, h1, h2, h3, k1, k2, k3, ho.data.kept hg (by omega), ho.byt, ho.ents.kept hg (by omega), ho.attrs.kept hg (by omega)⟩
theorem OwnI.rd {w : World} {g n cap B : Nat} {rs : List InoR} (h : OwnI w g n cap rs) (ho : ∀ r ∈ rs, r.own w B) : RdI w (some ⟨g, 0, none⟩) rs :=
  .inr ⟨g, 0, rfl, fun i r hi => by
    rw [Nat.zero_add]
    exact ⟨h.six i r hi, (ho r (List.mem_of_getElem? hi)).rd⟩⟩
/-- The inode with nothing. -/
def inoZ : InoR := ⟨⟨0, 0, 0, [], [], []⟩, none, 0, none, 0, none, 0⟩
end
end Go.Proofs.YtbjfihabkpianaaGreatDoor
