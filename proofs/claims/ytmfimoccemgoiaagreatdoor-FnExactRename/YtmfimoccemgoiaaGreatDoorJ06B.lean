/-
  Joined: MarkIno, Kept, MarkG, MarkGI, MarkTab.
-/
import Derived.Test.YtmfimoccemgoiaaGreatDoorJ05B
import Derived.Lib.ConvBytes
import Derived.Deep.AppendLies
namespace Go.Proofs.YtmfimoccemgoiaaGreatDoor
section
open Go.RowKit
theorem row_at {e : TypeId} {B s n : Nat} {w : World} {v : Value} {xs : List Value} (h : w.ownsRow B e s v n xs) {g : Nat} (hg : v.ownBlock = some g) : B ≤ g ∧ ∃ cur, w.heap[g]? = some (.cells cur e (0, 0)) := by
  rcases h.2 with ⟨rfl, _⟩ | ⟨g', cap, cur, rfl, hb, hgg, _⟩
  · simp [Value.ownBlock] at hg
  · simp [Value.ownBlock] at hg
    subst hg
    exact ⟨hb, cur, hgg⟩
theorem row_ne {e e' : TypeId} {B B' s s' n n' : Nat} {w : World} {v v' : Value} {xs xs' : List Value} (h : w.ownsRow B e s v n xs) (h' : w.ownsRow B' e' s' v' n' xs') (he : e ≠ e') {g : Nat} (hg : v.ownBlock = some g) : v'.ownBlock ≠ some g := by
  intro hg'
  obtain ⟨_, c1, h1⟩ := row_at h hg
  obtain ⟨_, c2, h2⟩ := row_at h' hg'
  rw [h1] at h2
  simp at h2
  exact he h2.2
/-- A row is as it was where only another one grew. -/
theorem row_kept {e : TypeId} {B s n : Nat} {w w' : World} {v : Value} {xs : List Value} (h : w.ownsRow B e s v n xs) {r : Option Nat} (hg : w.grownBy w' r) (hne : ∀ g, v.ownBlock = some g → r ≠ some g) : w'.ownsRow B e s v n xs := by
  refine ⟨h.1, ?_⟩
  rcases h.2 with h' | ⟨g', cap, cur, rfl, hb, hgg, rest⟩
  · exact .inl h'
  · exact .inr ⟨g', cap, cur, rfl, hb, (hg.block g' (Array.getElem?_eq_some_iff.1 hgg).1 (fun e => hne g' rfl e.symm)).trans hgg, rest⟩
/-- All blocks but the three rows are as they were. -/
structure But (w w' : World) (r1 r2 r3 : Option Nat) : Prop where
  os : w'.os = w.os
  tape : w'.tape = w.tape
  output : w'.output = w.output
  size : w.heap.size ≤ w'.heap.size
  block : ∀ k, k < w.heap.size → some k ≠ r1 → some k ≠ r2 → some k ≠ r3 → w'.heap[k]? = w.heap[k]?
theorem OwnV.keep {B : Nat} {w w' : World} {v : Value} {n : Nat} {zs : List Int} (h : OwnV B w v n zs) (hb : Below w.heap.size w w') : OwnV B w' v n zs := by
  refine ⟨h.1, ?_⟩
  rcases h.2 with h' | ⟨g', cap', cur, h', hb', hgg, rest⟩
  · exact .inl h'
  · exact .inr ⟨g', cap', cur, h', hb', (hb.block g' (Array.getElem?_eq_some_iff.1 hgg).1).trans hgg, rest⟩
end

section
open Go.RowKit
theorem Blk.newAt {W : World} {ad : Nat} {t : TypeId} {vs : Array Value} (h : ad = W.heap.size) : Blk (W.alloc (.cells vs t)) ad t vs := by subst h; exact Blk.new W t vs
theorem OwnV.drew {B : Nat} {w : World} {v : Value} {n : Nat} {zs : List Int} (h : OwnV B w v n zs) : OwnV B w.drew v n zs := h
theorem Blk.drew {w : World} {B : Nat} {t : TypeId} {vs : Array Value} (h : Blk w B t vs) : Blk w.drew B t vs := h
/-- The bytes behind a text that was turned into a list of its own: of the block's cells the first are zs, none of them held fast. -/
def OwnB (W : World) (g n : Nat) (zs : List Int) : Prop :=
  zs.length = n ∧ ∃ cur fr, W.heap[g]? = some (.cells cur 5 fr) ∧ n ≤ cur.size ∧ (∀ i, i < n → cur[i]? = some (.int .u8 (zs.getD i 0))) ∧ n ≤ fr.1
theorem OwnB.lt {W : World} {g n : Nat} {zs : List Int} (h : OwnB W g n zs) : g < W.heap.size := by
  obtain ⟨_, cur, fr, hg, _⟩ := h
  exact (Array.getElem?_eq_some_iff.1 hg).1
theorem OwnB.cell {W : World} {g n : Nat} {zs : List Int} (h : OwnB W g n zs) (i : Nat) (hi : i < n) : W.cell? ⟨g, i, none⟩ = some (.int .u8 (zs.getD i 0)) := by
  obtain ⟨_, cur, fr, hg, _, hc, _⟩ := h
  rw [cell_of_row W g i cur 5 fr hg]
  exact hc i hi
theorem OwnB.rd {W : World} {g n : Nat} {zs : List Int} (h : OwnB W g n zs) : Rd W (some ⟨g, 0, none⟩) zs := by
  refine .inr ⟨g, 0, rfl, fun i hi => ?_⟩
  rw [Nat.zero_add]
  exact h.cell i (by rw [← h.1]; exact hi)
theorem OwnB.block {W W' : World} {g n : Nat} {zs : List Int} (h : OwnB W g n zs) (hb : W'.heap[g]? = W.heap[g]?) : OwnB W' g n zs := by
  obtain ⟨hl, cur, fr, hg, rest⟩ := h
  exact ⟨hl, cur, fr, hb.trans hg, rest⟩
theorem OwnB.keep {W W' : World} {g n : Nat} {zs : List Int} (h : OwnB W g n zs) (hb : Below W.heap.size W W') : OwnB W' g n zs := h.block (hb.block g h.lt)
theorem OwnB.kept {W W' : World} {g n : Nat} {zs : List Int} (h : OwnB W g n zs) {r : Option Nat} (hg : W.grownBy W' r) (hne : some g ≠ r) : OwnB W' g n zs := h.block (hg.block g h.lt hne)
/-- All blocks of these types are as they were. -/
def KpT (W W' : World) (ts : List TypeId) : Prop := ∀ (B : Nat) (cur : Array Value) (t : TypeId) (fr : Nat × Nat), W.heap[B]? = some (Obj.cells cur t fr) → t ∈ ts → W'.heap[B]? = W.heap[B]?
theorem KpT.below {W W' : World} (h : Below W.heap.size W W') (ts : List TypeId) : KpT W W' ts := fun B _ _ _ hB _ => h.block B (Array.getElem?_eq_some_iff.1 hB).1
theorem KpT.grown {W W' : World} {R : Nat} {t : TypeId} {vs : Array Value} {ts : List TypeId} (h : W.grownBy W' (some R)) (hb : Blk W R t vs) (ht : t ∉ ts) : KpT W W' ts := fun B cur t' fr hB hm => h.block B (Array.getElem?_eq_some_iff.1 hB).1 (fun e => by
  simp at e
  subst e
  rw [show W.heap[B]? = _ from hb] at hB
  simp at hB
  exact ht (by rw [hB.2.1]; exact hm))
theorem KpT.row {W W' : World} {v : Value} {e : TypeId} {B s n : Nat} {xs : List Value} {ts : List TypeId} (h : W.grownBy W' v.ownBlock) (ho : W.ownsRow B e s v n xs) (ht : e ∉ ts) : KpT W W' ts := fun b cur t' fr hB hm => h.block b (Array.getElem?_eq_some_iff.1 hB).1 (fun q => by
  obtain ⟨_, c, hc⟩ := row_at ho q.symm
  rw [hc] at hB
  simp at hB
  exact ht (by rw [hB.2.1]; exact hm))
theorem KpT.but {W W' : World} {r1 r2 : Nat} {t1 t2 : TypeId} {u1 u2 : Array Value} {ts : List TypeId} (h : But W W' (some r1) (some r2) none) (h1 : Blk W r1 t1 u1) (h2 : Blk W r2 t2 u2) (n1 : t1 ∉ ts) (n2 : t2 ∉ ts) : KpT W W' ts := fun B cur t' fr hB hm => by
  refine h.block B (Array.getElem?_eq_some_iff.1 hB).1 (fun e => ?_) (fun e => ?_) (by simp)
  · simp at e
    subst e
    rw [show W.heap[B]? = _ from h1] at hB
    simp at hB
    exact n1 (by rw [hB.2.1]; exact hm)
  · simp at e
    subst e
    rw [show W.heap[B]? = _ from h2] at hB
    simp at hB
    exact n2 (by rw [hB.2.1]; exact hm)
theorem Blk.kp {W W' : World} {B : Nat} {t : TypeId} {vs : Array Value} {ts : List TypeId} (h : Blk W B t vs) (k : KpT W W' ts) (ht : t ∈ ts) : Blk W' B t vs := (k B _ _ _ h ht).trans h
theorem OwnB.kp {W W' : World} {g n : Nat} {zs : List Int} {ts : List TypeId} (h : OwnB W g n zs) (k : KpT W W' ts) (ht : 5 ∈ ts) : OwnB W' g n zs := by
  have h' := h
  obtain ⟨_, cur, fr, hg, _⟩ := h'
  exact h.block (k g _ _ _ hg ht)
theorem row_kp {W W' : World} {v : Value} {e : TypeId} {B s n : Nat} {xs : List Value} {ts : List TypeId} (h : W.ownsRow B e s v n xs) (k : KpT W W' ts) (ht : e ∈ ts) : W'.ownsRow B e s v n xs := by
  refine ⟨h.1, ?_⟩
  rcases h.2 with h' | ⟨g', cap', cur, h', hb', hgg, rest⟩
  · exact .inl h'
  · exact .inr ⟨g', cap', cur, h', hb', (k g' _ _ _ hgg ht).trans hgg, rest⟩
/-- The data: nothing yet, or a list of its own. -/
def DQ (B : Nat) (W : World) (v : Value) (dz : List Int) : Prop := ∃ g c, v = .slice (some ⟨g, 0, none⟩) dz.length c ∧ B ≤ g ∧ OwnB W g dz.length dz
theorem DQ.kp {B : Nat} {W W' : World} {v : Value} {dz : List Int} {ts : List TypeId} (h : DQ B W v dz) (k : KpT W W' ts) (ht : 5 ∈ ts) : DQ B W' v dz := by
  obtain ⟨g, c, h1, h2, h3⟩ := h
  exact ⟨g, c, h1, h2, h3.kp k ht⟩
/-- What is known while an inode is read: the answer's cell, the inode's box, its lists. -/
structure GX (w0 W : World) (X : Nat) (xs : Array Value) (v1 : Value) (dz : List Int) (v2 : Value) (es : List (ByteArray × Int)) (v3 : Value) (ats : List (ByteArray × ByteArray)) : Prop where
  below : Below w0.heap.size w0 W
  res : Blk W w0.heap.size 68 #[.int .i64 0, .int .i64 0, .int .i64 0, .slice none 0 0, .slice none 0 0, .slice none 0 0]
  x : Blk W X 68 xs
  hX : w0.heap.size < X
  d : v1 = .slice none 0 0 ∨ DQ w0.heap.size W v1 dz
  e : W.ownsRow w0.heap.size 89 2 v2 es.length (pv (eP es))
  t : W.ownsRow w0.heap.size 75 2 v3 ats.length (pv (aP ats))
theorem GX.kp {w0 W W' : World} {X : Nat} {xs : Array Value} {v1 v2 v3 : Value} {dz : List Int} {es : List (ByteArray × Int)} {ats : List (ByteArray × ByteArray)} (h : GX w0 W X xs v1 dz v2 es v3 ats) (k : KpT W W' [68, 5, 89, 75]) (hb : Below w0.heap.size w0 W') : GX w0 W' X xs v1 dz v2 es v3 ats :=
  ⟨hb, h.res.kp k (by decide), h.x.kp k (by decide), h.hX, h.d.imp id (fun q => q.kp k (by decide)), row_kp h.e k (by decide), row_kp h.t k (by decide)⟩
theorem GX.keep {w0 W W' : World} {X : Nat} {xs : Array Value} {v1 v2 v3 : Value} {dz : List Int} {es : List (ByteArray × Int)} {ats : List (ByteArray × ByteArray)} (h : GX w0 W X xs v1 dz v2 es v3 ats) (hb : Below W.heap.size W W') : GX w0 W' X xs v1 dz v2 es v3 ats :=
  h.kp (KpT.below hb _) (h.below.trans (hb.mono h.below.size))
theorem GX.setX {w0 W : World} {X : Nat} {xs : Array Value} {v1 v2 v3 : Value} {dz : List Int} {es : List (ByteArray × Int)} {ats : List (ByteArray × ByteArray)} (h : GX w0 W X xs v1 dz v2 es v3 ats) (j : Nat) (v : Value) : GX w0 (W.setCell ⟨X, j, none⟩ v) X (xs.setIfInBounds j v) v1 dz v2 es v3 ats := by
  have k : KpT W (W.setCell ⟨X, j, none⟩ v) [5, 89, 75] := KpT.grown (gr_setC W X j v) h.x (by decide)
  exact ⟨h.below.setCell (p := ⟨X, j, none⟩) (Nat.le_of_lt h.hX) v, h.res.other (Nat.ne_of_lt h.hX) j v, h.x.set j v, h.hX, h.d.imp id (fun q => q.kp k (by decide)), row_kp h.e k (by decide), row_kp h.t k (by decide)⟩
theorem pv_snoc (ps : List VP) (p : VP) : pv (ps ++ [p]) = pv ps ++ [p.1, p.2] := by rw [pv_append]; rfl
theorem pair_news (w : World) (p : VP) (t : TypeId) : ∀ j u, [p.1, p.2][j]? = some u → (w.alloc (.cells #[p.1, p.2] t)).cell? ((⟨w.heap.size, 0, none⟩ : Addr).add j) = some u := by
  intro j u hj
  rw [add_at, (Blk.new w t #[p.1, p.2]).cell j]
  match j, hj with
  | 0, hj => simpa using hj
  | 1, hj => simpa using hj
  | j + 2, hj => simp at hj
theorem eP_snoc (es : List (ByteArray × Int)) (q : ByteArray × Int) : eP (es ++ [q]) = eP es ++ [(.string q.1, .int .i64 q.2)] := by simp [eP]
theorem aP_snoc (es : List (ByteArray × ByteArray)) (q : ByteArray × ByteArray) : aP (es ++ [q]) = aP es ++ [(.string q.1, .string q.2)] := by simp [aP]
theorem GX.appE {w0 W W' : World} {X : Nat} {xs : Array Value} {v1 v2 v3 : Value} {dz : List Int} {es : List (ByteArray × Int)} {ats : List (ByteArray × ByteArray)} (h : GX w0 W X xs v1 dz v2 es v3 ats) (o : Obj) (hg : (W.alloc o).grownBy W' v2.ownBlock) (v2' : Value) (es' : List (ByteArray × Int)) (ho : W'.ownsRow w0.heap.size 89 2 v2' es'.length (pv (eP es'))) : GX w0 W' X xs v1 dz v2' es' v3 ats := by
  have ha := h.keep ((Below.refl W.heap.size W).alloc (Nat.le_refl _) o)
  have k : KpT (W.alloc o) W' [68, 5, 75] := KpT.row hg ha.e (by decide)
  exact ⟨ha.below.grown hg ha.below.size (fun g hk => (row_at ha.e hk).1), ha.res.kp k (by decide), ha.x.kp k (by decide), ha.hX, ha.d.imp id (fun q => q.kp k (by decide)), ho, row_kp ha.t k (by decide)⟩
theorem GX.appA {w0 W W' : World} {X : Nat} {xs : Array Value} {v1 v2 v3 : Value} {dz : List Int} {es : List (ByteArray × Int)} {ats : List (ByteArray × ByteArray)} (h : GX w0 W X xs v1 dz v2 es v3 ats) (o : Obj) (hg : (W.alloc o).grownBy W' v3.ownBlock) (v3' : Value) (ats' : List (ByteArray × ByteArray)) (ho : W'.ownsRow w0.heap.size 75 2 v3' ats'.length (pv (aP ats'))) : GX w0 W' X xs v1 dz v2 es v3' ats' := by
  have ha := h.keep ((Below.refl W.heap.size W).alloc (Nat.le_refl _) o)
  have k : KpT (W.alloc o) W' [68, 5, 89] := KpT.row hg ha.t (by decide)
  exact ⟨ha.below.grown hg ha.below.size (fun g hk => (row_at ha.t hk).1), ha.res.kp k (by decide), ha.x.kp k (by decide), ha.hX, ha.d.imp id (fun q => q.kp k (by decide)), row_kp ha.e k (by decide), ho⟩
end

section
open Go.RowKit
/-- A list of bytes: nil, or the first n cells of a block, none of them held fast. -/
def RowB (w : World) (v : Value) (n : Nat) (zs : List Int) : Prop :=
  zs.length = n ∧ ((v = .slice none 0 0 ∧ n = 0) ∨ ∃ (g c : Nat) (cur : Array Value) (fr : Nat × Nat), v = .slice (some ⟨g, 0, none⟩) n c ∧ w.heap[g]? = some (.cells cur 5 fr) ∧ n ≤ cur.size ∧ (∀ i, i < n → cur[i]? = some (.int .u8 (zs.getD i 0))) ∧ (n ≤ fr.1 ∨ fr.2 = 0))
theorem RowB.nil (w : World) : RowB w (.slice none 0 0) 0 [] := ⟨rfl, .inl ⟨rfl, rfl⟩⟩
theorem DQ.rowB {B : Nat} {w : World} {v : Value} {dz : List Int} (h : DQ B w v dz) : RowB w v dz.length dz := by
  obtain ⟨g, c, h1, _, h2, cur, fr, h3, h4, h5, h6⟩ := h
  exact ⟨rfl, .inr ⟨g, c, cur, fr, h1, h3, h4, h5, .inl h6⟩⟩
theorem OwnV.rowB {B : Nat} {w : World} {v : Value} {n : Nat} {zs : List Int} (h : OwnV B w v n zs) : RowB w v n zs := by
  have hl := h.len
  refine ⟨hl, ?_⟩
  rcases h.2 with h' | ⟨g, cap, cur, rfl, _, hg, hsz, hc⟩
  · exact .inl h'
  · have hcell := fun (i : Nat) (hi : i < n) => World.ownsRow.cellAt h i (by omega)
    have hcur : ∀ i : Nat, i < n → cur[i]? = Option.some (Value.int .u8 (zs.getD i 0)) := fun i hi => by
      have h2 := hcell i hi
      rw [cell_of_row w g i cur 5 (0, 0) hg] at h2
      rw [h2]
      have hz : i < zs.length := by omega
      simp [hz]
    refine .inr ⟨g, cap, cur, (0, 0), rfl, hg, ?_, hcur, .inr rfl⟩
    by_cases h0 : n = 0
    · omega
    · have h2 := hcur (n - 1) (by omega)
      have := (Array.getElem?_eq_some_iff.1 h2).1
      omega
theorem RowB.cell {w : World} {g c n : Nat} {zs : List Int} (h : RowB w (.slice (some ⟨g, 0, none⟩) n c) n zs) (i : Nat) (hi : i < n) : w.cell? ⟨g, i, none⟩ = some (.int .u8 (zs.getD i 0)) ∧ w.frozen? ⟨g, i, none⟩ = false := by
  rcases h.2 with ⟨h1, _⟩ | ⟨g', c', cur, fr, h1, hg, hsz, hc, hf⟩
  · simp at h1
  · simp only [Value.slice.injEq, Option.some.injEq, Addr.mk.injEq, and_true, true_and] at h1
    obtain ⟨rfl, rfl⟩ := h1
    rw [cell_of_row w g i cur 5 fr hg]
    refine ⟨hc i hi, ?_⟩
    obtain ⟨lo, hi'⟩ := fr
    simp only [World.frozen?, hg]
    simp only at hf
    rcases hf with hf | hf
    · have : ¬ lo ≤ i := by omega
      simp [this]
    · subst hf
      simp
theorem RowB.stored {w : World} {g c n : Nat} {zs : List Int} (h : RowB w (.slice (some ⟨g, 0, none⟩) n c) n zs) (k : Nat) (z : Int) (hk : k < n) : RowB (w.setCell ⟨g, k, none⟩ (.int .u8 z)) (.slice (some ⟨g, 0, none⟩) n c) n (zs.set k z) := by
  have hl := h.1
  refine ⟨by simpa using hl, ?_⟩
  rcases h.2 with ⟨h1, _⟩ | ⟨g', c', cur, fr, h1, hg, hsz, hc, hf⟩
  · simp at h1
  · simp only [Value.slice.injEq, Option.some.injEq, Addr.mk.injEq, and_true, true_and] at h1
    obtain ⟨rfl, rfl⟩ := h1
    refine .inr ⟨g, c, cur.setIfInBounds k (.int .u8 z), fr, rfl, by simp [World.setCell, Array.getElem?_modify, hg], by simpa using hsz, fun i hi => ?_, hf⟩
    by_cases e : k = i
    · subst e
      have hk2 : k < cur.size := by omega
      have hk3 : k < zs.length := by omega
      simp [hk2, hk3]
    · rw [Array.getElem?_setIfInBounds_ne e, hc i hi]
      simp [List.getD_eq_getElem?_getD, List.getElem?_set_ne e]
theorem RowB.block {w w' : World} {v : Value} {n : Nat} {zs : List Int} (h : RowB w v n zs) (hb : ∀ g, v.ownBlock = some g → w'.heap[g]? = w.heap[g]?) : RowB w' v n zs := by
  refine ⟨h.1, ?_⟩
  rcases h.2 with h1 | ⟨g, c, cur, fr, rfl, hg, rest⟩
  · exact .inl h1
  · exact .inr ⟨g, c, cur, fr, rfl, (hb g rfl).trans hg, rest⟩
theorem RowB.at_ {w : World} {v : Value} {n g : Nat} {zs : List Int} (h : RowB w v n zs) (hv : v.ownBlock = some g) : g < w.heap.size ∧ ∃ cur fr, w.heap[g]? = some (.cells cur 5 fr) := by
  rcases h.2 with ⟨rfl, _⟩ | ⟨g', c, cur, fr, rfl, hg, _⟩
  · simp [Value.ownBlock] at hv
  · simp [Value.ownBlock] at hv
    subst hv
    exact ⟨(Array.getElem?_eq_some_iff.1 hg).1, cur, fr, hg⟩
theorem RowB.form {w : World} {v : Value} {n : Nat} {zs : List Int} (h : RowB w v n zs) : ∃ a c, v = .slice a n c ∧ Rd w a zs := by
  have hl := h.1
  rcases h.2 with ⟨rfl, rfl⟩ | ⟨g, c, cur, fr, rfl, hg, _, hc, _⟩
  · exact ⟨none, 0, rfl, .inl (List.length_eq_zero_iff.1 hl)⟩
  · refine ⟨some ⟨g, 0, none⟩, c, rfl, .inr ⟨g, 0, rfl, fun i hi => ?_⟩⟩
    rw [Nat.zero_add, cell_of_row w g i cur 5 fr hg]
    exact hc i (by omega)
/-- All blocks but one are as they were. -/
theorem gr_block {w w' : World} {r : Option Nat} (h : w.grownBy w' r) {g : Nat} (hg : g < w.heap.size) (hne : r ≠ some g) : w'.heap[g]? = w.heap[g]? := h.block g hg (fun e => hne e.symm)
/-- The bytes behind k rounds of marking from k0 on. -/
def mksG (k0 : Nat) (zs : List Int) (k : Nat) : List Int := (List.range k).map (fun i : Nat => (((k0 + i : Nat) : Int)) % 256) ++ zs.drop k
theorem mksG_zero (k0 : Nat) (zs : List Int) : mksG k0 zs 0 = zs := by simp [mksG]
theorem mksG_set (k0 : Nat) (zs : List Int) (k : Nat) (h : k < zs.length) : (mksG k0 zs k).set k (((k0 + k : Nat) : Int) % 256) = mksG k0 zs (k + 1) := by
  unfold mksG
  rw [List.set_append_right _ _ (by simp)]
  have e : k - ((List.range k).map (fun i : Nat => (((k0 + i : Nat) : Int)) % 256)).length = 0 := by simp
  rw [e, List.drop_eq_getElem_cons h, List.set_cons_zero, List.range_succ, List.map_append, List.append_assoc]
  rfl
def marksG (k0 n : Nat) : List Int := (List.range n).map (fun i : Nat => (((k0 + i : Nat) : Int)) % 256)
theorem mksG_all (k0 : Nat) (zs : List Int) (n : Nat) (h : zs.length = n) : mksG k0 zs n = marksG k0 n := by subst h; simp [mksG, marksG]
theorem marksG_at (k0 n k : Nat) (h : k < n) : (marksG k0 n).getD k 0 = ((k0 + k : Nat) : Int) % 256 := by simp [marksG, h]
set_option maxHeartbeats 800000 in
theorem markBG (v : Value) (n k0 : Nat) (zs : List Int) (w : World) (h1 : 1 ≤ k0) (hs : k0 + n ≤ 9999990) (hown : RowB w v n zs) :
    Calls Tryz.prog 113 #[v, .int .i64 k0] w fun e w' => e = .returned (.int .i64 ((k0 + n : Nat) : Int)) ∧ RowB w' v n (marksG k0 n) ∧ w.grownBy w' v.ownBlock := by
  rcases hown.2 with ⟨rfl, rfl⟩ | ⟨g, c, cur, fr, rfl, _⟩
  · go_enter Tryz.func113, Tryz.ntmps113
    go_wp2
    refine wp_loop_rounds 1 ?_; rw [rounds_succ]
    go_wp2
    go_ret
    exact ⟨rfl, RowB.nil _, gr_refl w _⟩
  · have hn' : Hid (zs.length = n) := hown.1
    go_enter Tryz.func113, Tryz.ntmps113
    go_wp2
    go_loopw [1, 5] (fun q i wr => ∃ k : Nat, k ≤ n ∧ i = .int .i64 k ∧ q = .int .i64 ((k0 + k : Nat) : Int) ∧ RowB wr (.slice (some ⟨g, 0, none⟩) n c) n (mksG k0 zs k) ∧ w.grownBy wr (some g)) (fun _ i _ => n - (intOf i).toNat)
    case atStart => exact ⟨0, Nat.zero_le _, rfl, rfl, by rw [mksG_zero]; exact hown, gr_refl w _⟩
    case round =>
      obtain ⟨k, hk, rfl, rfl, ho, hgr⟩ := hrel
      obtain ⟨q, hq⟩ : ∃ q, k0 + k = q := ⟨_, rfl⟩
      rw [hq]
      by_cases hkn : k < n
      · have hki : (k : Int) < (n : Int) := by omega
        obtain ⟨hcy, hfy⟩ := ho.cell k hkn
        have hst := ho.stored k ((q : Int) % 256) hkn
        rw [← hq, mksG_set k0 zs k (by rw [hn'.out]; exact hkn), hq] at hst
        have hgr' : w.grownBy (wr.setCell ⟨g, k, none⟩ (.int .u8 ((q : Int) % 256))) (some g) := hgr.trans (gr_setC wr g k _)
        generalize (mksG k0 zs k).getD k 0 = y at hcy
        clear ho hgr
        go_wp2
        go_roundw
        case rel => exact ⟨k + 1, by omega, by go_num, by rw [show k0 + (k + 1) = q + 1 by omega]; go_num, hst, hgr'⟩
        case measure => simp [intOf]; omega
      · have hki : ¬ (k : Int) < (n : Int) := by omega
        go_wp2
        go_ret
        obtain rfl : k = n := by omega
        rw [mksG_all k0 zs k hn'.out] at ho
        exact ⟨by show Ending.returned (.int .i64 (q : Int)) = _; rw [← hq]; first | rfl | simp, ho, hgr⟩
set_option maxHeartbeats 800000 in
theorem heldBG (v : Value) (n k0 : Nat) (w : World) (h1 : 1 ≤ k0) (hs : k0 + n ≤ 9999990) (hown : RowB w v n (marksG k0 n)) :
    Calls Tryz.prog 116 #[v, .int .i64 k0] w fun e w' => e = .returned (.int .i64 ((k0 + n : Nat) : Int)) ∧ w' = w := by
  rcases hown.2 with ⟨rfl, rfl⟩ | ⟨g, c, cur, fr, rfl, _⟩
  · go_enter Tryz.func116, Tryz.ntmps116
    go_wp2
    refine wp_loop_rounds 1 ?_; rw [rounds_succ]
    go_wp2
    go_ret
    exact ⟨rfl, rfl⟩
  · have HO : Hid _ := hown
    clear hown
    go_enter Tryz.func116, Tryz.ntmps116
    go_wp2
    go_loop [1, 5] (fun q i => ∃ k : Nat, k ≤ n ∧ i = .int .i64 k ∧ q = .int .i64 ((k0 + k : Nat) : Int)) (fun _ i => n - (intOf i).toNat)
    case atStart => exact ⟨0, Nat.zero_le _, rfl, rfl⟩
    case round =>
      obtain ⟨k, hk, rfl, rfl⟩ := hrel
      obtain ⟨q, hq⟩ : ∃ q, k0 + k = q := ⟨_, rfl⟩
      rw [hq]
      by_cases hkn : k < n
      · have hki : (k : Int) < (n : Int) := by omega
        have hcy := (RowB.cell HO.out k hkn).1
        rw [marksG_at k0 n k hkn, hq] at hcy
        go_wp2
        go_round
        case rel => exact ⟨k + 1, by omega, by go_num, by rw [show k0 + (k + 1) = q + 1 by omega]; go_num⟩
        case measure => simp [intOf]; omega
      · have hki : ¬ (k : Int) < (n : Int) := by omega
        go_wp2
        go_ret
        obtain rfl : k = n := by omega
        exact ⟨by show Ending.returned (.int .i64 (q : Int)) = _; rw [← hq]; first | rfl | simp, rfl⟩
end

section
open Go.RowKit
/-- The lists of an inode: each nil or of the call's own, in blocks from B up to T. -/
structure InoG (w : World) (B T : Nat) (D : InoD) (v1 v2 v3 : Value) : Prop where
  data : OwnV 0 w v1 D.data.length D.data
  byt : Byt D.data
  ents : OwnQ 89 w v2 D.ents.length (eP D.ents)
  attrs : OwnQ 75 w v3 D.attrs.length (aP D.attrs)
  within : ∀ g, (v1.ownBlock = some g ∨ v2.ownBlock = some g ∨ v3.ownBlock = some g) → B ≤ g ∧ g < T
/-- The same, marked from k0 on. -/
structure InoGM (w : World) (B T k0 n1 n2 n3 : Nat) (v1 v2 v3 : Value) : Prop where
  data : RowB w v1 n1 (marksG k0 n1)
  ents : OwnQ 89 w v2 n2 ((List.range n2).map (mE (k0 + n1)))
  attrs : OwnQ 75 w v3 n3 ((List.range n3).map (mA (k0 + n1 + 2 * n2)))
  within : ∀ g, (v1.ownBlock = some g ∨ v2.ownBlock = some g ∨ v3.ownBlock = some g) → B ≤ g ∧ g < T
/-- All blocks outside the interval are as they were. -/
structure Out (B T : Nat) (w w' : World) : Prop where
  os : w'.os = w.os
  tape : w'.tape = w.tape
  output : w'.output = w.output
  size : w.heap.size ≤ w'.heap.size
  block : ∀ k, k < w.heap.size → (k < B ∨ T ≤ k) → w'.heap[k]? = w.heap[k]?
theorem Out.refl (B T : Nat) (w : World) : Out B T w w := ⟨rfl, rfl, rfl, Nat.le_refl _, fun _ _ _ => rfl⟩
theorem Out.trans {B T : Nat} {a b c : World} (h : Out B T a b) (k : Out B T b c) : Out B T a c :=
  ⟨k.os.trans h.os, k.tape.trans h.tape, k.output.trans h.output, Nat.le_trans h.size k.size, fun i hi ho => (k.block i (Nat.lt_of_lt_of_le hi h.size) ho).trans (h.block i hi ho)⟩
theorem Out.wider {B T B' T' : Nat} {a b : World} (h : Out B T a b) (h1 : B' ≤ B) (h2 : T ≤ T') : Out B' T' a b :=
  ⟨h.os, h.tape, h.output, h.size, fun i hi ho => h.block i hi (by omega)⟩
theorem Below.out {a b : World} (h : Below a.heap.size a b) (B T : Nat) : Out B T a b := ⟨h.os, h.tape, h.output, h.size, fun k hk _ => h.block k hk⟩
theorem Out.gr {B T : Nat} {a b : World} {r : Option Nat} (h : a.grownBy b r) (hr : ∀ g, r = some g → B ≤ g ∧ g < T) : Out B T a b :=
  ⟨h.os, h.tape, h.output, h.size, fun k hk ho => h.block k hk (fun e => by have := hr k e.symm; omega)⟩
theorem Below.outs {H B T : Nat} {w0 w w' : World} (h : Below H w0 w) (k : Out B T w w') (hB : H ≤ B) (hH : H ≤ w0.heap.size) : Below H w0 w' :=
  ⟨k.os.trans h.os, k.tape.trans h.tape, k.output.trans h.output, Nat.le_trans h.size k.size, fun i hi => (k.block i (Nat.lt_of_lt_of_le hi (Nat.le_trans hH h.size)) (.inl (by omega))).trans (h.block i hi)⟩
theorem Blk.outs {W W' : World} {b B T : Nat} {t : TypeId} {vs : Array Value} (h : Blk W b t vs) (k : Out B T W W') (hb : b < B ∨ T ≤ b) : Blk W' b t vs := (k.block b h.lt hb).trans h
theorem q_block {e : TypeId} {w w' : World} {v : Value} {n : Nat} {ps : List VP} (h : OwnQ e w v n ps) (hb : ∀ g, v.ownBlock = some g → w'.heap[g]? = w.heap[g]?) : OwnQ e w' v n ps := by
  refine ⟨h.1, ?_⟩
  rcases h.2 with h' | ⟨g', cap, cur, rfl, hb', hgg, rest⟩
  · exact .inl h'
  · exact .inr ⟨g', cap, cur, rfl, hb', (hb g' rfl).trans hgg, rest⟩
theorem ownV_same {B : Nat} {w w' : World} {v : Value} {n : Nat} {zs : List Int} (h : OwnV B w v n zs) (hb : ∀ g, v.ownBlock = some g → w'.heap[g]? = w.heap[g]?) : OwnV B w' v n zs := by
  refine ⟨h.1, ?_⟩
  rcases h.2 with h' | ⟨g', cap, cur, rfl, hb', hgg, rest⟩
  · exact .inl h'
  · exact .inr ⟨g', cap, cur, rfl, hb', (hb g' rfl).trans hgg, rest⟩
theorem InoG.kept {w w' : World} {B T : Nat} {D : InoD} {v1 v2 v3 : Value} (h : InoG w B T D v1 v2 v3) (k : ∀ b, B ≤ b → b < T → w'.heap[b]? = w.heap[b]?) : InoG w' B T D v1 v2 v3 :=
  ⟨ownV_same h.data fun g hg => k g (h.within g (.inl hg)).1 (h.within g (.inl hg)).2, h.byt, q_block h.ents fun g hg => k g (h.within g (.inr (.inl hg))).1 (h.within g (.inr (.inl hg))).2, q_block h.attrs fun g hg => k g (h.within g (.inr (.inr hg))).1 (h.within g (.inr (.inr hg))).2, h.within⟩
theorem InoGM.kept {w w' : World} {B T k0 n1 n2 n3 : Nat} {v1 v2 v3 : Value} (h : InoGM w B T k0 n1 n2 n3 v1 v2 v3) (k : ∀ b, B ≤ b → b < T → w'.heap[b]? = w.heap[b]?) : InoGM w' B T k0 n1 n2 n3 v1 v2 v3 :=
  ⟨h.data.block fun g hg => k g (h.within g (.inl hg)).1 (h.within g (.inl hg)).2, q_block h.ents fun g hg => k g (h.within g (.inr (.inl hg))).1 (h.within g (.inr (.inl hg))).2, q_block h.attrs fun g hg => k g (h.within g (.inr (.inr hg))).1 (h.within g (.inr (.inr hg))).2, h.within⟩
theorem InoG.keep {w w' : World} {B T : Nat} {D : InoD} {v1 v2 v3 : Value} (h : InoG w B T D v1 v2 v3) (hT : T ≤ w.heap.size) (hb : Below w.heap.size w w') : InoG w' B T D v1 v2 v3 := h.kept fun b _ hb' => hb.block b (by omega)
theorem InoGM.keep {w w' : World} {B T k0 n1 n2 n3 : Nat} {v1 v2 v3 : Value} (h : InoGM w B T k0 n1 n2 n3 v1 v2 v3) (hT : T ≤ w.heap.size) (hb : Below w.heap.size w w') : InoGM w' B T k0 n1 n2 n3 v1 v2 v3 := h.kept fun b _ hb' => hb.block b (by omega)
theorem InoG.outs {w w' : World} {B T B' T' : Nat} {D : InoD} {v1 v2 v3 : Value} (h : InoG w B T D v1 v2 v3) (hT : T ≤ w.heap.size) (k : Out B' T' w w') (hd : T ≤ B' ∨ T' ≤ B) : InoG w' B T D v1 v2 v3 := h.kept fun b h1 h2 => k.block b (by omega) (by omega)
theorem InoG.wider {w : World} {B T B' T' : Nat} {D : InoD} {v1 v2 v3 : Value} (h : InoG w B T D v1 v2 v3) (h1 : B' ≤ B) (h2 : T ≤ T') : InoG w B' T' D v1 v2 v3 := ⟨h.data, h.byt, h.ents, h.attrs, fun g hg => by have := h.within g hg; omega⟩
theorem InoG.form {w : World} {B T : Nat} {D : InoD} {v1 v2 v3 : Value} (h : InoG w B T D v1 v2 v3) : ∃ a1 c1 a2 c2 a3 c3, v1 = .slice a1 D.data.length c1 ∧ v2 = .slice a2 D.ents.length c2 ∧ v3 = .slice a3 D.attrs.length c3 ∧ InoRd w D a1 a2 a3 := by
  obtain ⟨a1, c1, e1, r1⟩ := (OwnV.rowB h.data).form
  have f : ∀ {e : TypeId} {v : Value} {n : Nat} {ps : List VP}, OwnQ e w v n ps → ∃ a c, v = .slice a n c ∧ RdP w a ps := fun {e v n ps} h => by
    rcases h.cases with ⟨rfl, rfl, rfl⟩ | ⟨g, c, rfl, ho⟩
    · exact ⟨none, 0, rfl, .inl rfl⟩
    · exact ⟨_, c, rfl, ho.rd⟩
  obtain ⟨a2, c2, e2, r2⟩ := f h.ents
  obtain ⟨a3, c3, e3, r3⟩ := f h.attrs
  exact ⟨a1, c1, a2, c2, a3, c3, e1, e2, e3, ⟨r1, h.byt, r2, r3⟩⟩
theorem rowB_ne {w : World} {v v' : Value} {n n' : Nat} {zs : List Int} {e : TypeId} {ps : List VP} (h : RowB w v n zs) (h' : OwnQ e w v' n' ps) (he : e ≠ 5) {g : Nat} (hg : v.ownBlock = some g) : v'.ownBlock ≠ some g := by
  intro hg'
  obtain ⟨_, c1, fr, h1⟩ := h.at_ hg
  obtain ⟨_, c2, h2⟩ := row_at h' hg'
  rw [h1] at h2
  simp at h2
  exact he h2.2.1.symm
end

section
open Go.RowKit
/-- An inode of a row, and the interval of blocks that its lists lie in. -/
structure InoJ where
  r : InoR
  lo : Nat
  hi : Nat
def InoJ.v1 (j : InoJ) : Value := .slice j.r.a1 j.r.D.data.length j.r.c1
def InoJ.v2 (j : InoJ) : Value := .slice j.r.a2 j.r.D.ents.length j.r.c2
def InoJ.v3 (j : InoJ) : Value := .slice j.r.a3 j.r.D.attrs.length j.r.c3
def InoJ.G (w : World) (j : InoJ) : Prop := InoG w j.lo j.hi j.r.D j.v1 j.v2 j.v3
def InoJ.M (w : World) (j : InoJ) (k : Nat) : Prop := InoGM w j.lo j.hi k j.r.D.data.length j.r.D.ents.length j.r.D.attrs.length j.v1 j.v2 j.v3
def InoJ.cost (j : InoJ) : Nat := 3 + j.r.D.data.length + 2 * j.r.D.ents.length + 2 * j.r.D.attrs.length
/-- The number that the marks of the i-th begin with. -/
def qAt (k0 : Nat) (js : List InoJ) (i : Nat) : Nat := k0 + ((js.take i).map InoJ.cost).sum
theorem qAt_zero (k0 : Nat) (js : List InoJ) : qAt k0 js 0 = k0 := by simp [qAt]
theorem qAt_succ (k0 : Nat) {js : List InoJ} {i : Nat} {j : InoJ} (h : js[i]? = some j) : qAt k0 js (i + 1) = qAt k0 js i + j.cost := by
  unfold qAt
  rw [List.take_add_one, h]
  simp
  omega
theorem qAt_le (k0 : Nat) (js : List InoJ) {i i' : Nat} (h : i ≤ i') : qAt k0 js i ≤ qAt k0 js i' := by
  induction i' with
  | zero => obtain rfl := (show i = 0 by omega); exact Nat.le_refl _
  | succ m ih =>
    rcases (show i ≤ m ∨ i = m + 1 by omega) with h1 | rfl
    · refine Nat.le_trans (ih h1) ?_
      cases hj : js[m]? with
      | none =>
        unfold qAt
        rw [List.take_add_one, hj]
        simp
      | some j => rw [qAt_succ k0 hj]; omega
    · exact Nat.le_refl _
def InoR.mkd (r : InoR) (q : Nat) : InoR := { r with D := { r.D with ino := (q : Int), kind := ((q + 1 : Nat) : Int), links := ((q + 2 : Nat) : Int) } }
/-- The row behind k rounds. -/
def rowM (k0 : Nat) (js : List InoJ) (k : Nat) : List InoR := js.mapIdx fun i j => if i < k then j.r.mkd (qAt k0 js i) else j.r
theorem rowM_len (k0 : Nat) (js : List InoJ) (k : Nat) : (rowM k0 js k).length = js.length := by simp [rowM]
theorem rowM_at (k0 : Nat) {js : List InoJ} (k : Nat) {i : Nat} {j : InoJ} (h : js[i]? = some j) : (rowM k0 js k)[i]? = some (if i < k then j.r.mkd (qAt k0 js i) else j.r) := by simp [rowM, h]
theorem rowM_zero (k0 : Nat) (js : List InoJ) : rowM k0 js 0 = js.map InoJ.r := by
  apply List.ext_getElem?
  intro i
  simp [rowM]
theorem rowM_set (k0 : Nat) {js : List InoJ} {k : Nat} {j : InoJ} (h : js[k]? = some j) : (rowM k0 js k).set k (j.r.mkd (qAt k0 js k)) = rowM k0 js (k + 1) := by
  apply List.ext_getElem?
  intro i
  by_cases e : k = i
  · subst e
    have hk := (List.getElem?_eq_some_iff.1 h).1
    rw [List.getElem?_set_self (by rw [rowM_len]; exact hk), rowM_at k0 (k + 1) h, if_pos (by omega)]
  · rw [List.getElem?_set_ne e]
    cases hi : js[i]? with
    | none => rw [List.getElem?_eq_none (by rw [rowM_len]; exact List.getElem?_eq_none_iff.1 hi), List.getElem?_eq_none (by rw [rowM_len]; exact List.getElem?_eq_none_iff.1 hi)]
    | some j' =>
      rw [rowM_at k0 k hi, rowM_at k0 (k + 1) hi]
      by_cases h1 : i < k
      · rw [if_pos h1, if_pos (by omega)]
      · rw [if_neg h1, if_neg (by omega)]
theorem iv_set3 (rs : List InoR) (i q : Nat) (r : InoR) (h : rs[i]? = some r) : (((iv rs).set (i * 6) (.int .i64 (q : Int))).set (i * 6 + 1) (.int .i64 ((q + 1 : Nat) : Int))).set (i * 6 + 2) (.int .i64 ((q + 2 : Nat) : Int)) = iv (rs.set i (r.mkd q)) := by
  induction rs generalizing i with
  | nil => simp at h
  | cons p rs ih =>
    cases i with
    | zero =>
      simp at h
      subst h
      simp [iv_cons, InoR.six, InoR.mkd]
    | succ i =>
      have hl := six_length p
      have e : ∀ (l : List Value) (m : Nat) (x : Value), (p.six ++ l).set ((i + 1) * 6 + m) x = p.six ++ l.set (i * 6 + m) x := fun l m x => by
        rw [List.set_append_right _ _ (by rw [hl]; omega), hl, show (i + 1) * 6 + m - 6 = i * 6 + m by omega]
      have e0 : ∀ (l : List Value) (x : Value), (p.six ++ l).set ((i + 1) * 6) x = p.six ++ l.set (i * 6) x := fun l x => e l 0 x
      rw [iv_cons, e0, e, e, List.set_cons_succ, iv_cons, ih i (by simpa using h)]
theorem ownI_three {w : World} {g n cap : Nat} {rs : List InoR} (h : OwnI w g n cap rs) (k q : Nat) (r : InoR) (hr : rs[k]? = some r) : OwnI (((w.setCell ⟨g, k * 6, none⟩ (.int .i64 (q : Int))).setCell ⟨g, k * 6 + 1, none⟩ (.int .i64 ((q + 1 : Nat) : Int))).setCell ⟨g, k * 6 + 2, none⟩ (.int .i64 ((q + 2 : Nat) : Int))) g n cap (rs.set k (r.mkd q)) := by
  have s0 := (World.ownsRow.stored h (k * 6) (.int .i64 (q : Int))).1
  have s1 := (World.ownsRow.stored s0 (k * 6 + 1) (.int .i64 ((q + 1 : Nat) : Int))).1
  have s2 := (World.ownsRow.stored s1 (k * 6 + 2) (.int .i64 ((q + 2 : Nat) : Int))).1
  rw [iv_set3 rs k q r hr] at s2
  exact s2
theorem OwnI.outs {w w' : World} {g n cap B T : Nat} {rs : List InoR} (h : OwnI w g n cap rs) (k : Out B T w w') (hg : g < B ∨ T ≤ g) : OwnI w' g n cap rs := by
  have hlt := h.lt
  refine ⟨h.1, ?_⟩
  rcases h.2 with ⟨h', _⟩ | ⟨g', cap', cur, h', hb', hgg, rest⟩
  · simp at h'
  · refine .inr ⟨g', cap', cur, h', hb', ?_, rest⟩
    simp only [Value.slice.injEq, Option.some.injEq, Addr.mk.injEq, and_true, true_and] at h'
    obtain ⟨rfl, rfl⟩ := h'
    rw [k.block g hlt hg]
    exact hgg
theorem InoJ.G.outs {w w' : World} {B T : Nat} {j : InoJ} (h : j.G w) (hT : j.hi ≤ w.heap.size) (k : Out B T w w') (hd : j.hi ≤ B ∨ T ≤ j.lo) : j.G w' := InoG.outs h hT k hd
theorem InoJ.M.outs {w w' : World} {B T q : Nat} {j : InoJ} (h : j.M w q) (hT : j.hi ≤ w.heap.size) (k : Out B T w w') (hd : j.hi ≤ B ∨ T ≤ j.lo) : j.M w' q := InoGM.kept h fun b h1 h2 => k.block b (by omega) (by omega)
/-- The intervals are apart, and apart from the row's block; all of it lies from Lo up to Hi. -/
structure ApJ (g Lo Hi : Nat) (js : List InoJ) : Prop where
  apart : ∀ (i i' : Nat) (j j' : InoJ), js[i]? = some j → js[i']? = some j' → i ≠ i' → j.hi ≤ j'.lo ∨ j'.hi ≤ j.lo
  row : ∀ (i : Nat) (j : InoJ), js[i]? = some j → g < j.lo ∨ j.hi ≤ g
  within : ∀ (i : Nat) (j : InoJ), js[i]? = some j → Lo ≤ j.lo ∧ j.hi ≤ Hi
  rowIn : Lo ≤ g ∧ g < Hi
/-- A row of inodes, behind k rounds of marking. -/
structure TabL (w W : World) (g n cap Lo Hi k0 : Nat) (js : List InoJ) (k : Nat) : Prop where
  row : OwnI W g n cap (rowM k0 js k)
  old : ∀ (i : Nat) (j : InoJ), js[i]? = some j → k ≤ i → j.G W
  new : ∀ (i : Nat) (j : InoJ), js[i]? = some j → i < k → j.M W (qAt k0 js i + 3)
  out : Out Lo Hi w W
set_option maxRecDepth 100000 in
set_option maxHeartbeats 4000000 in
theorem markInodeS_any (g n cap Lo Hi k0 : Nat) (js : List InoJ) (w : World) (hn : js.length = n) (hk0 : 1 ≤ k0) (hs : n ≤ 2000000) (hq : qAt k0 js n ≤ 9999990) (hap : ApJ g Lo Hi js) (hH : Hi ≤ w.heap.size) (hown : OwnI w g n cap (js.map InoJ.r)) (hG : ∀ (i : Nat) (j : InoJ), js[i]? = some j → j.G w) :
    Calls Tryz.prog 63 #[.slice (some ⟨g, 0, none⟩) n cap, .int .i64 k0] w fun e w' => e = .returned (.int .i64 ((qAt k0 js n : Nat) : Int)) ∧ TabL w w' g n cap Lo Hi k0 js n := by
  have hL0 : TabL w w g n cap Lo Hi k0 js 0 := ⟨by rw [rowM_zero]; exact hown, fun i j h _ => hG i j h, fun i j _ h => by omega, Out.refl _ _ _⟩
  have hq0 : (k0 : Int) = ((qAt k0 js 0 : Nat) : Int) := by rw [qAt_zero]
  have HAP : Hid _ := hap
  have hn' : Hid (js.length = n) := hn
  clear hown hG hap hn
  rw [hq0]
  go_enter Tryz.func63, Tryz.ntmps63
  go_wp2
  go_loopw [1, 5] (fun q i wr => ∃ k : Nat, k ≤ n ∧ i = .int .i64 k ∧ q = .int .i64 ((qAt k0 js k : Nat) : Int) ∧ TabL w wr g n cap Lo Hi k0 js k) (fun _ i _ => n - (intOf i).toNat)
  case atStart => exact ⟨0, Nat.zero_le _, rfl, rfl, hL0⟩
  case round =>
    obtain ⟨k, hk, rfl, rfl, hL⟩ := hrel
    by_cases hkn : k < n
    · have hki : (k : Int) < (n : Int) := by omega
      obtain ⟨j, hjk⟩ : ∃ j, js[k]? = some j := ⟨_, List.getElem?_eq_getElem (by rw [hn'.out]; exact hkn)⟩
      have hqs := qAt_succ k0 hjk
      have hqn := qAt_le k0 js (show k + 1 ≤ n by omega)
      have hqk0 := qAt_le k0 js (Nat.zero_le k)
      rw [qAt_zero] at hqk0
      have hcost : j.cost = 3 + j.r.D.data.length + 2 * j.r.D.ents.length + 2 * j.r.D.attrs.length := rfl
      have hrw := HAP.out.row k j hjk
      have hwi := HAP.out.within k j hjk
      have hri := HAP.out.rowIn
      have hrk : (rowM k0 js k)[k]? = some j.r := by rw [rowM_at k0 k hjk, if_neg (by omega)]
      have hsz := hL.out.size
      obtain ⟨x0, x1, x2, x3, x4, x5⟩ := hL.row.six k j.r hrk
      have f0 := hL.row.frozen (k * 6)
      have f1 := hL.row.frozen (k * 6 + 1)
      have f2 := hL.row.frozen (k * 6 + 2)
      obtain ⟨q, hqq⟩ : ∃ q, qAt k0 js k = q := ⟨_, rfl⟩
      have hqq' : Hid _ := hqq
      rw [hqq] at hqs hqk0 ⊢
      have HL : Hid _ := hL
      obtain ⟨n1, h1⟩ : ∃ n, j.r.D.data.length = n := ⟨_, rfl⟩
      obtain ⟨n2, h2⟩ : ∃ n, j.r.D.ents.length = n := ⟨_, rfl⟩
      obtain ⟨n3, h3⟩ : ∃ n, j.r.D.attrs.length = n := ⟨_, rfl⟩
      rw [h1, h2, h3] at hcost
      rw [h1] at x3
      rw [h2] at x4
      rw [h3] at x5
      have H123 : Hid (j.r.D.data.length = n1 ∧ j.r.D.ents.length = n2 ∧ j.r.D.attrs.length = n3) := ⟨h1, h2, h3⟩
      clear hqq hL hL0 h1 h2 h3
      go_wp2_with fail
      have ho3 : OwnI (((wr.setCell ⟨g, k * 6, none⟩ (.int .i64 (q : Int))).setCell ⟨g, k * 6 + 1, none⟩ (.int .i64 ((q : Int) + 1))).setCell ⟨g, k * 6 + 2, none⟩ (.int .i64 ((q : Int) + 1 + 1))) g n cap (rowM k0 js (k + 1)) := by
        have := ownI_three HL.out.row k q j.r hrk
        rw [← hqq'.out, rowM_set k0 hjk, hqq'.out] at this
        push_cast at this
        exact this
      have o3 : Out g (g + 1) wr (((wr.setCell ⟨g, k * 6, none⟩ (.int .i64 (q : Int))).setCell ⟨g, k * 6 + 1, none⟩ (.int .i64 ((q : Int) + 1))).setCell ⟨g, k * 6 + 2, none⟩ (.int .i64 ((q : Int) + 1 + 1))) := Out.gr (gr_more (gr_more (gr_setC wr g (k * 6) _) (k * 6 + 1) _) (k * 6 + 2) _) (fun m hm => by simp at hm; omega)
      obtain ⟨W3, hW3⟩ : ∃ W, ((wr.setCell ⟨g, k * 6, none⟩ (.int .i64 (q : Int))).setCell ⟨g, k * 6 + 1, none⟩ (.int .i64 ((q : Int) + 1))).setCell ⟨g, k * 6 + 2, none⟩ (.int .i64 ((q : Int) + 1 + 1)) = W := ⟨_, rfl⟩
      rw [hW3] at ho3 o3 ⊢
      clear hW3 x0 x1 x2 x3 x4 x5 f0 f1 f2
      have hGj := (HL.out.old k j hjk (Nat.le_refl _)).outs (by omega) o3 (by omega)
      have hs3 := o3.size
      obtain ⟨p1, p2, p3, p4, pw⟩ := hGj
      have hv1 : j.v1 = .slice j.r.a1 n1 j.r.c1 := by unfold InoJ.v1; rw [H123.out.1]
      have hv2 : j.v2 = .slice j.r.a2 n2 j.r.c2 := by unfold InoJ.v2; rw [H123.out.2.1]
      have hv3 : j.v3 = .slice j.r.a3 n3 j.r.c3 := by unfold InoJ.v3; rw [H123.out.2.2]
      rw [H123.out.1] at p1
      have p1 := OwnV.rowB p1
      rw [H123.out.2.1] at p3
      rw [H123.out.2.2] at p4
      have hlt : ∀ m, j.v1.ownBlock = some m ∨ j.v2.ownBlock = some m ∨ j.v3.ownBlock = some m → m < wr.heap.size := fun m hm => by have := (pw m hm).2; omega
      have y6 := ho3.six k (j.r.mkd q) (by rw [rowM_at k0 (k + 1) hjk, if_pos (by omega), hqq'.out])
      have y4 : W3.cell? ⟨g, k * 6 + 4, none⟩ = some j.v2 := y6.c4
      rw [show (q : Int) + 1 + 1 + 1 = ((q + 3 : Nat) : Int) by omega, ← hv1]
      refine (markBG j.v1 n1 (q + 3) j.r.D.data W3 (by omega) (by omega) p1).mono ?_
      rintro e w1 ⟨rfl, m1, g1⟩
      have hs1 := g1.size
      have o1 : Out j.lo j.hi W3 w1 := Out.gr g1 (fun m hm => pw m (.inl hm))
      have s3 : OwnQ 89 w1 j.v2 n2 (eP j.r.D.ents) := q_block p3 fun m hm => gr_block g1 (by have := hlt m (.inr (.inl hm)); omega) (fun e => rowB_ne p1 p3 (by decide) e hm)
      have s4 : OwnQ 75 w1 j.v3 n3 (aP j.r.D.attrs) := q_block p4 fun m hm => gr_block g1 (by have := hlt m (.inr (.inr hm)); omega) (fun e => rowB_ne p1 p4 (by decide) e hm)
      have r1 := ho3.outs o1 (by omega)
      have z4 : w1.cell? ⟨g, k * 6 + 4, none⟩ = some j.v2 := (r1.six k (j.r.mkd q) (by rw [rowM_at k0 (k + 1) hjk, if_pos (by omega), hqq'.out])).c4
      obtain ⟨qq, hqq2⟩ : ∃ x, q + 3 + n1 = x := ⟨_, rfl⟩
      rw [hqq2]
      rw [hv2] at z4
      clear y6 y4
      go_wp2_with fail
      rw [← hv2]
      refine (markE_any j.v2 n2 qq (eP j.r.D.ents) w1 (by omega) (by omega) s3).mono ?_
      rintro e w2 ⟨rfl, m2, g2⟩
      have hs2 := g2.size
      have o2 : Out j.lo j.hi w1 w2 := Out.gr g2 (fun m hm => pw m (.inr (.inl hm)))
      have t1 : RowB w2 j.v1 n1 (marksG (q + 3) n1) := m1.block fun m hm => gr_block g2 (by have := hlt m (.inl hm); omega) (fun e => rowB_ne m1 s3 (by decide) hm e)
      have t4 : OwnQ 75 w2 j.v3 n3 (aP j.r.D.attrs) := q_block s4 fun m hm => gr_block g2 (by have := hlt m (.inr (.inr hm)); omega) (fun e => row_ne s3 s4 (by decide) e hm)
      have r2 := r1.outs o2 (by omega)
      have z5 : w2.cell? ⟨g, k * 6 + 5, none⟩ = some j.v3 := (r2.six k (j.r.mkd q) (by rw [rowM_at k0 (k + 1) hjk, if_pos (by omega), hqq'.out])).c5
      obtain ⟨qr, hqr⟩ : ∃ x, qq + 2 * n2 = x := ⟨_, rfl⟩
      rw [hqr]
      rw [hv3] at z5
      clear z4
      go_wp2_with fail
      rw [← hv3]
      refine (markA_any j.v3 n3 qr (aP j.r.D.attrs) w2 (by omega) (by omega) t4).mono ?_
      rintro e w3 ⟨rfl, m3, g3⟩
      have o3' : Out j.lo j.hi w2 w3 := Out.gr g3 (fun m hm => pw m (.inr (.inr hm)))
      have u1 : RowB w3 j.v1 n1 (marksG (q + 3) n1) := t1.block fun m hm => gr_block g3 (by have := hlt m (.inl hm); omega) (fun e => rowB_ne t1 t4 (by decide) hm e)
      have u2 : OwnQ 89 w3 j.v2 n2 ((List.range n2).map (mE qq)) := q_block m2 fun m hm => gr_block g3 (by have := hlt m (.inr (.inl hm)); omega) (fun e => row_ne t4 m2 (by decide) e hm)
      have r3 := r2.outs o3' (by omega)
      have oA : Out j.lo j.hi W3 w3 := o1.trans (o2.trans o3')
      have hM : j.M w3 (q + 3) := by
        unfold InoJ.M
        rw [H123.out.1, H123.out.2.1, H123.out.2.2]
        exact ⟨u1, by rw [hqq2]; exact u2, by rw [hqq2, hqr]; exact m3, pw⟩
      have hL' : TabL w w3 g n cap Lo Hi k0 js (k + 1) := by
        refine ⟨r3, fun i j' hj' hi => ?_, fun i j' hj' hi => ?_, ?_⟩
        · have ha := HAP.out.apart k i j j' hjk hj' (by omega)
          have hr' := HAP.out.row i j' hj'
          have hw' := HAP.out.within i j' hj'
          exact ((HL.out.old i j' hj' (by omega)).outs (by omega) o3 (by omega)).outs (by omega) oA (by omega)
        · rcases (show i < k ∨ i = k by omega) with hi' | rfl
          · have ha := HAP.out.apart k i j j' hjk hj' (by omega)
            have hr' := HAP.out.row i j' hj'
            have hw' := HAP.out.within i j' hj'
            exact ((HL.out.new i j' hj' hi').outs (by omega) o3 (by omega)).outs (by omega) oA (by omega)
          · rw [hjk] at hj'
            simp at hj'
            subst hj'
            rw [hqq'.out]
            exact hM
        · exact HL.out.out.trans ((o3.wider (by omega) (by omega)).trans (oA.wider (by omega) (by omega)))
      have hqe : qr + 2 * n3 = qAt k0 js (k + 1) := by rw [qAt_succ k0 hjk, hqq'.out]; omega
      clear z5
      go_wp2
      go_roundw
      case rel => exact ⟨k + 1, by omega, by go_num, by rw [← hqe]; exact val_int (by push_cast; omega), hL'⟩
      case measure => simp [intOf]; omega
    · have hki : ¬ (k : Int) < (n : Int) := by omega
      obtain rfl : k = n := by omega
      have HL : Hid _ := hL
      clear hL hL0
      go_wp2
      go_ret
      exact ⟨rfl, HL.out⟩
set_option maxRecDepth 100000 in
set_option maxHeartbeats 4000000 in
theorem heldInodeS_any (w0 : World) (g n cap Lo Hi k0 : Nat) (js : List InoJ) (w : World) (hn : js.length = n) (hk0 : 1 ≤ k0) (hs : n ≤ 2000000) (hq : qAt k0 js n ≤ 9999990) (hap : ApJ g Lo Hi js) (_ : Hi ≤ w.heap.size) (hT : TabL w0 w g n cap Lo Hi k0 js n) :
    Calls Tryz.prog 64 #[.slice (some ⟨g, 0, none⟩) n cap, .int .i64 k0] w fun e w' => e = .returned (.int .i64 ((qAt k0 js n : Nat) : Int)) ∧ Below w.heap.size w w' := by
  have hq0 : (k0 : Int) = ((qAt k0 js 0 : Nat) : Int) := by rw [qAt_zero]
  have HAP : Hid _ := hap
  have HT : Hid _ := hT
  have hn' : Hid (js.length = n) := hn
  have hgl := hT.row.lt
  clear hT hap hn
  rw [hq0]
  go_enter Tryz.func64, Tryz.ntmps64
  go_wp2
  go_loopw [1, 5] (fun q i wr => ∃ k : Nat, k ≤ n ∧ i = .int .i64 k ∧ q = .int .i64 ((qAt k0 js k : Nat) : Int) ∧ Below w.heap.size w wr) (fun _ i _ => n - (intOf i).toNat)
  case atStart => exact ⟨0, Nat.zero_le _, rfl, rfl, Below.refl _ _⟩
  case round =>
    obtain ⟨k, hk, rfl, rfl, hB⟩ := hrel
    by_cases hkn : k < n
    · have hki : (k : Int) < (n : Int) := by omega
      obtain ⟨j, hjk⟩ : ∃ j, js[k]? = some j := ⟨_, List.getElem?_eq_getElem (by rw [hn'.out]; exact hkn)⟩
      have hqs := qAt_succ k0 hjk
      have hqn := qAt_le k0 js (show k + 1 ≤ n by omega)
      have hqk0 := qAt_le k0 js (Nat.zero_le k)
      rw [qAt_zero] at hqk0
      have hcost : j.cost = 3 + j.r.D.data.length + 2 * j.r.D.ents.length + 2 * j.r.D.attrs.length := rfl
      have hwi := HAP.out.within k j hjk
      have hsz := hB.size
      have hrow := (HT.out.row.keep hB).six k (j.r.mkd (qAt k0 js k)) (by rw [rowM_at k0 n hjk, if_pos (by omega)])
      have hMj := HT.out.new k j hjk hkn
      obtain ⟨q, hqq⟩ : ∃ q, qAt k0 js k = q := ⟨_, rfl⟩
      rw [hqq] at hqs hqk0 hrow hMj ⊢
      have hcell : ∀ W : World, Below w.heap.size w W → SixA W g (k * 6) (j.r.mkd q) := fun W hW => by
        have := (HT.out.row.keep hW).six k (j.r.mkd (qAt k0 js k)) (by rw [rowM_at k0 n hjk, if_pos (by omega)])
        rw [hqq] at this
        exact this
      have HC : Hid _ := hcell
      obtain ⟨p1, p3, p4, _⟩ := hMj
      obtain ⟨n1, h1⟩ : ∃ n, j.r.D.data.length = n := ⟨_, rfl⟩
      obtain ⟨n2, h2⟩ : ∃ n, j.r.D.ents.length = n := ⟨_, rfl⟩
      obtain ⟨n3, h3⟩ : ∃ n, j.r.D.attrs.length = n := ⟨_, rfl⟩
      rw [h1, h2, h3] at hcost
      rw [h1] at p1
      rw [h1, h2] at p3
      rw [h1, h2, h3] at p4
      have hv1 : j.v1 = .slice j.r.a1 n1 j.r.c1 := by unfold InoJ.v1; rw [h1]
      have hv2 : j.v2 = .slice j.r.a2 n2 j.r.c2 := by unfold InoJ.v2; rw [h2]
      have hv3 : j.v3 = .slice j.r.a3 n3 j.r.c3 := by unfold InoJ.v3; rw [h3]
      have hkb : ∀ {v : Value} {W : World}, Below w.heap.size w W → RowB w v n1 (marksG (q + 3) n1) → RowB W v n1 (marksG (q + 3) n1) := fun hW h => h.block fun m hm => hW.block m (h.at_ hm).1
      have P1 := hkb hB p1
      have y0 : wr.cell? ⟨g, k * 6, none⟩ = some (.int .i64 (q : Int)) := hrow.c0
      have y1 : wr.cell? ⟨g, k * 6 + 1, none⟩ = some (.int .i64 ((q : Int) + 1)) := by have := hrow.c1; unfold InoR.mkd at this; push_cast at this; exact this
      have y2 : wr.cell? ⟨g, k * 6 + 2, none⟩ = some (.int .i64 ((q : Int) + 1 + 1)) := by have := hrow.c2; unfold InoR.mkd at this; push_cast at this; rw [this]
      have y3 : wr.cell? ⟨g, k * 6 + 3, none⟩ = some (.slice j.r.a1 n1 j.r.c1) := by rw [← h1]; exact hrow.c3
      have b0 : ((q : Int) != (q : Int)) = false := by simp
      have b1 : ((q : Int) + 1 != (q : Int) + 1) = false := by simp
      have b2 : ((q : Int) + 1 + 1 != (q : Int) + 1 + 1) = false := by simp
      clear hrow hcell hkb
      go_wp2_with fail
      rw [show (q : Int) + 1 + 1 + 1 = ((q + 3 : Nat) : Int) by omega, ← hv1]
      refine (heldBG j.v1 n1 (q + 3) wr (by omega) (by omega) P1).mono ?_
      rintro e w1 ⟨rfl, hw⟩
      obtain rfl := hw.symm
      have y4 : wr.cell? ⟨g, k * 6 + 4, none⟩ = some (.slice j.r.a2 n2 j.r.c2) := by rw [← h2]; exact (HC.out wr hB).c4
      obtain ⟨qq, hqq2⟩ : ∃ x, q + 3 + n1 = x := ⟨_, rfl⟩
      rw [hqq2] at p3 p4 ⊢
      have hqq0 : ¬ (qq : Int) < 0 := by omega
      clear y0 y1 y2 y3 P1
      go_wp2_with fail
      rw [← hv2]
      refine (heldE_any j.v2 n2 qq wr (by omega) (by omega) (p3.keep hB)).mono ?_
      rintro e w2 ⟨rfl, t2⟩
      have B2 := hB.trans (t2.mono hsz)
      have y5 : w2.cell? ⟨g, k * 6 + 5, none⟩ = some (.slice j.r.a3 n3 j.r.c3) := by rw [← h3]; exact (HC.out w2 B2).c5
      obtain ⟨qr, hqr⟩ : ∃ x, qq + 2 * n2 = x := ⟨_, rfl⟩
      rw [hqr] at p4 ⊢
      have hqr0 : ¬ (qr : Int) < 0 := by omega
      clear y4
      go_wp2_with fail
      rw [← hv3]
      refine (heldA_any j.v3 n3 qr w2 (by omega) (by omega) (p4.keep B2)).mono ?_
      rintro e w3 ⟨rfl, t3⟩
      have B3 := B2.trans (t3.mono B2.size)
      obtain ⟨qs, hqs2⟩ : ∃ x, qr + 2 * n3 = x := ⟨_, rfl⟩
      rw [hqs2]
      have hqs0 : ¬ (qs : Int) < 0 := by omega
      have hqe : Hid (qs = qAt k0 js (k + 1)) := by show _ = _; rw [qAt_succ k0 hjk, hqq]; omega
      clear y5 p1 p3 p4 hqs hcost
      go_wp2
      go_roundw
      case rel => exact ⟨k + 1, by omega, by go_num, by rw [← hqe.out], B3⟩
      case measure => simp [intOf]; omega
    · have hki : ¬ (k : Int) < (n : Int) := by omega
      obtain rfl : k = n := by omega
      go_wp2
      go_ret
      exact ⟨rfl, hB⟩
end
end Go.Proofs.YtmfimoccemgoiaaGreatDoor
