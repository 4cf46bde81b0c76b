/-
  Joined: Kept, MarkG, MarkGI.
-/
import Derived.Test.YtnfplimhhjpbkaaGreatDoorJ08T
import Derived.Test.YtnfplimhhjpbkaaGreatDoorJ05T
import Derived.Lib.ConvBytes
import Derived.Deep.RegionHeld3
import Derived.Deep.AppendLies
namespace Go.Proofs.YtnfplimhhjpbkaaGreatDoor
section
open Go.RowKit
theorem Blk.newAt {W : World} {ad : Nat} {t : TypeId} {vs : Array Value} (h : ad = W.heap.size) : Blk (W.alloc (.cells vs t)) ad t vs := by subst h; exact Blk.new W t vs
theorem OwnV.drew {B : Nat} {w : World} {v : Value} {n : Nat} {zs : List Int} (h : OwnV B w v n zs) : OwnV B w.drew v n zs := h
theorem Blk.drew {w : World} {B : Nat} {t : TypeId} {vs : Array Value} (h : Blk w B t vs) : Blk w.drew B t vs := h
/-- The bytes behind a text that was turned into a list of its own: of the block's cells the first are zs, none of them held fast. -/
def OwnB (W : World) (g n : Nat) (zs : List Int) : Prop :=
  zs.length = n ∧ ∃ cur fr, W.heap[g]? = some (.cells cur 5 fr) ∧ n ≤ cur.size ∧ (∀ i, i < n → cur[i]? = some (.int .u8 (zs.getD i 0))) ∧ n ≤ fr.1
theorem OwnB.lt {W : World} {g n : Nat} {zs : List Int} (h : OwnB W g n zs) : g < W.heap.size := by
  obtain ⟨_, cur, fr, hg, _⟩ := h
  exact (Array.getElem?_eq_some_iff.1 hg).1
theorem OwnB.cell {W : World} {g n : Nat} {zs : List Int} (h : OwnB W g n zs) (i : Nat) (hi : i < n) : W.cell? ⟨g, i, none⟩ = some (.int .u8 (zs.getD i 0)) := by
  obtain ⟨_, cur, fr, hg, _, hc, _⟩ := h
  rw [cell_of_row W g i cur 5 fr hg]
  exact hc i hi
theorem OwnB.rd {W : World} {g n : Nat} {zs : List Int} (h : OwnB W g n zs) : Rd W (some ⟨g, 0, none⟩) zs := by
  refine .inr ⟨g, 0, rfl, fun i hi => ?_⟩
  rw [Nat.zero_add]
  exact h.cell i (by rw [← h.1]; exact hi)
theorem OwnB.block {W W' : World} {g n : Nat} {zs : List Int} (h : OwnB W g n zs) (hb : W'.heap[g]? = W.heap[g]?) : OwnB W' g n zs := by
  obtain ⟨hl, cur, fr, hg, rest⟩ := h
  exact ⟨hl, cur, fr, hb.trans hg, rest⟩
theorem OwnB.keep {W W' : World} {g n : Nat} {zs : List Int} (h : OwnB W g n zs) (hb : Below W.heap.size W W') : OwnB W' g n zs := h.block (hb.block g h.lt)
theorem OwnB.kept {W W' : World} {g n : Nat} {zs : List Int} (h : OwnB W g n zs) {r : Option Nat} (hg : W.grownBy W' r) (hne : some g ≠ r) : OwnB W' g n zs := h.block (hg.block g h.lt hne)
/-- All blocks of these types are as they were. -/
def KpT (W W' : World) (ts : List TypeId) : Prop := ∀ (B : Nat) (cur : Array Value) (t : TypeId) (fr : Nat × Nat), W.heap[B]? = some (Obj.cells cur t fr) → t ∈ ts → W'.heap[B]? = W.heap[B]?
theorem KpT.below {W W' : World} (h : Below W.heap.size W W') (ts : List TypeId) : KpT W W' ts := fun B _ _ _ hB _ => h.block B (Array.getElem?_eq_some_iff.1 hB).1
theorem KpT.grown {W W' : World} {R : Nat} {t : TypeId} {vs : Array Value} {ts : List TypeId} (h : W.grownBy W' (some R)) (hb : Blk W R t vs) (ht : t ∉ ts) : KpT W W' ts := fun B cur t' fr hB hm => h.block B (Array.getElem?_eq_some_iff.1 hB).1 (fun e => by
  simp at e
  subst e
  rw [show W.heap[B]? = _ from hb] at hB
  simp at hB
  exact ht (by rw [hB.2.1]; exact hm))
theorem KpT.row {W W' : World} {v : Value} {e : TypeId} {B s n : Nat} {xs : List Value} {ts : List TypeId} (h : W.grownBy W' v.ownBlock) (ho : W.ownsRow B e s v n xs) (ht : e ∉ ts) : KpT W W' ts := fun b cur t' fr hB hm => h.block b (Array.getElem?_eq_some_iff.1 hB).1 (fun q => by
  obtain ⟨_, c, hc⟩ := row_at ho q.symm
  rw [hc] at hB
  simp at hB
  exact ht (by rw [hB.2.1]; exact hm))
theorem KpT.but {W W' : World} {r1 r2 : Nat} {t1 t2 : TypeId} {u1 u2 : Array Value} {ts : List TypeId} (h : But W W' (some r1) (some r2) none) (h1 : Blk W r1 t1 u1) (h2 : Blk W r2 t2 u2) (n1 : t1 ∉ ts) (n2 : t2 ∉ ts) : KpT W W' ts := fun B cur t' fr hB hm => by
  refine h.block B (Array.getElem?_eq_some_iff.1 hB).1 (fun e => ?_) (fun e => ?_) (by simp)
  · simp at e
    subst e
    rw [show W.heap[B]? = _ from h1] at hB
    simp at hB
    exact n1 (by rw [hB.2.1]; exact hm)
  · simp at e
    subst e
    rw [show W.heap[B]? = _ from h2] at hB
    simp at hB
    exact n2 (by rw [hB.2.1]; exact hm)
theorem Blk.kp {W W' : World} {B : Nat} {t : TypeId} {vs : Array Value} {ts : List TypeId} (h : Blk W B t vs) (k : KpT W W' ts) (ht : t ∈ ts) : Blk W' B t vs := (k B _ _ _ h ht).trans h
theorem OwnB.kp {W W' : World} {g n : Nat} {zs : List Int} {ts : List TypeId} (h : OwnB W g n zs) (k : KpT W W' ts) (ht : 5 ∈ ts) : OwnB W' g n zs := by
  have h' := h
  obtain ⟨_, cur, fr, hg, _⟩ := h'
  exact h.block (k g _ _ _ hg ht)
theorem row_kp {W W' : World} {v : Value} {e : TypeId} {B s n : Nat} {xs : List Value} {ts : List TypeId} (h : W.ownsRow B e s v n xs) (k : KpT W W' ts) (ht : e ∈ ts) : W'.ownsRow B e s v n xs := by
  refine ⟨h.1, ?_⟩
  rcases h.2 with h' | ⟨g', cap', cur, h', hb', hgg, rest⟩
  · exact .inl h'
  · exact .inr ⟨g', cap', cur, h', hb', (k g' _ _ _ hgg ht).trans hgg, rest⟩
/-- The data: nothing yet, or a list of its own. -/
def DQ (B : Nat) (W : World) (v : Value) (dz : List Int) : Prop := ∃ g c, v = .slice (some ⟨g, 0, none⟩) dz.length c ∧ B ≤ g ∧ OwnB W g dz.length dz
theorem DQ.kp {B : Nat} {W W' : World} {v : Value} {dz : List Int} {ts : List TypeId} (h : DQ B W v dz) (k : KpT W W' ts) (ht : 5 ∈ ts) : DQ B W' v dz := by
  obtain ⟨g, c, h1, h2, h3⟩ := h
  exact ⟨g, c, h1, h2, h3.kp k ht⟩
/-- What is known while an inode is read: the answer's cell, the inode's box, its lists. -/
structure GX (w0 W : World) (X : Nat) (xs : Array Value) (v1 : Value) (dz : List Int) (v2 : Value) (es : List (ByteArray × Int)) (v3 : Value) (ats : List (ByteArray × ByteArray)) : Prop where
  below : Below w0.heap.size w0 W
  res : Blk W w0.heap.size 66 #[.int .i64 0, .int .i64 0, .int .i64 0, .slice none 0 0, .slice none 0 0, .slice none 0 0]
  x : Blk W X 66 xs
  hX : w0.heap.size < X
  d : v1 = .slice none 0 0 ∨ DQ w0.heap.size W v1 dz
  e : W.ownsRow w0.heap.size 86 2 v2 es.length (pv (eP es))
  t : W.ownsRow w0.heap.size 89 2 v3 ats.length (pv (aP ats))
theorem GX.kp {w0 W W' : World} {X : Nat} {xs : Array Value} {v1 v2 v3 : Value} {dz : List Int} {es : List (ByteArray × Int)} {ats : List (ByteArray × ByteArray)} (h : GX w0 W X xs v1 dz v2 es v3 ats) (k : KpT W W' [66, 5, 86, 89]) (hb : Below w0.heap.size w0 W') : GX w0 W' X xs v1 dz v2 es v3 ats :=
  ⟨hb, h.res.kp k (by decide), h.x.kp k (by decide), h.hX, h.d.imp id (fun q => q.kp k (by decide)), row_kp h.e k (by decide), row_kp h.t k (by decide)⟩
theorem GX.keep {w0 W W' : World} {X : Nat} {xs : Array Value} {v1 v2 v3 : Value} {dz : List Int} {es : List (ByteArray × Int)} {ats : List (ByteArray × ByteArray)} (h : GX w0 W X xs v1 dz v2 es v3 ats) (hb : Below W.heap.size W W') : GX w0 W' X xs v1 dz v2 es v3 ats :=
  h.kp (KpT.below hb _) (h.below.trans (hb.mono h.below.size))
theorem GX.setX {w0 W : World} {X : Nat} {xs : Array Value} {v1 v2 v3 : Value} {dz : List Int} {es : List (ByteArray × Int)} {ats : List (ByteArray × ByteArray)} (h : GX w0 W X xs v1 dz v2 es v3 ats) (j : Nat) (v : Value) : GX w0 (W.setCell ⟨X, j, none⟩ v) X (xs.setIfInBounds j v) v1 dz v2 es v3 ats := by
  have k : KpT W (W.setCell ⟨X, j, none⟩ v) [5, 86, 89] := KpT.grown (gr_setC W X j v) h.x (by decide)
  exact ⟨h.below.setCell (p := ⟨X, j, none⟩) (Nat.le_of_lt h.hX) v, h.res.other (Nat.ne_of_lt h.hX) j v, h.x.set j v, h.hX, h.d.imp id (fun q => q.kp k (by decide)), row_kp h.e k (by decide), row_kp h.t k (by decide)⟩
theorem pv_snoc (ps : List VP) (p : VP) : pv (ps ++ [p]) = pv ps ++ [p.1, p.2] := by rw [pv_append]; rfl
theorem pair_news (w : World) (p : VP) (t : TypeId) : ∀ j u, [p.1, p.2][j]? = some u → (w.alloc (.cells #[p.1, p.2] t)).cell? ((⟨w.heap.size, 0, none⟩ : Addr).add j) = some u := by
  intro j u hj
  rw [add_at, (Blk.new w t #[p.1, p.2]).cell j]
  match j, hj with
  | 0, hj => simpa using hj
  | 1, hj => simpa using hj
  | j + 2, hj => simp at hj
theorem eP_snoc (es : List (ByteArray × Int)) (q : ByteArray × Int) : eP (es ++ [q]) = eP es ++ [(.string q.1, .int .i64 q.2)] := by simp [eP]
theorem aP_snoc (es : List (ByteArray × ByteArray)) (q : ByteArray × ByteArray) : aP (es ++ [q]) = aP es ++ [(.string q.1, .string q.2)] := by simp [aP]
theorem GX.appE {w0 W W' : World} {X : Nat} {xs : Array Value} {v1 v2 v3 : Value} {dz : List Int} {es : List (ByteArray × Int)} {ats : List (ByteArray × ByteArray)} (h : GX w0 W X xs v1 dz v2 es v3 ats) (o : Obj) (hg : (W.alloc o).grownBy W' v2.ownBlock) (v2' : Value) (es' : List (ByteArray × Int)) (ho : W'.ownsRow w0.heap.size 86 2 v2' es'.length (pv (eP es'))) : GX w0 W' X xs v1 dz v2' es' v3 ats := by
  have ha := h.keep ((Below.refl W.heap.size W).alloc (Nat.le_refl _) o)
  have k : KpT (W.alloc o) W' [66, 5, 89] := KpT.row hg ha.e (by decide)
  exact ⟨ha.below.grown hg ha.below.size (fun g hk => (row_at ha.e hk).1), ha.res.kp k (by decide), ha.x.kp k (by decide), ha.hX, ha.d.imp id (fun q => q.kp k (by decide)), ho, row_kp ha.t k (by decide)⟩
theorem GX.appA {w0 W W' : World} {X : Nat} {xs : Array Value} {v1 v2 v3 : Value} {dz : List Int} {es : List (ByteArray × Int)} {ats : List (ByteArray × ByteArray)} (h : GX w0 W X xs v1 dz v2 es v3 ats) (o : Obj) (hg : (W.alloc o).grownBy W' v3.ownBlock) (v3' : Value) (ats' : List (ByteArray × ByteArray)) (ho : W'.ownsRow w0.heap.size 89 2 v3' ats'.length (pv (aP ats'))) : GX w0 W' X xs v1 dz v2 es v3' ats' := by
  have ha := h.keep ((Below.refl W.heap.size W).alloc (Nat.le_refl _) o)
  have k : KpT (W.alloc o) W' [66, 5, 86] := KpT.row hg ha.t (by decide)
  exact ⟨ha.below.grown hg ha.below.size (fun g hk => (row_at ha.t hk).1), ha.res.kp k (by decide), ha.x.kp k (by decide), ha.hX, ha.d.imp id (fun q => q.kp k (by decide)), row_kp ha.e k (by decide), ho⟩
end

section
open Go.RowKit
/-- A list of bytes: nil, or the first n cells of a block, none of them held fast. -/
def RowB (w : World) (v : Value) (n : Nat) (zs : List Int) : Prop :=
  zs.length = n ∧ ((v = .slice none 0 0 ∧ n = 0) ∨ ∃ (g c : Nat) (cur : Array Value) (fr : Nat × Nat), v = .slice (some ⟨g, 0, none⟩) n c ∧ w.heap[g]? = some (.cells cur 5 fr) ∧ n ≤ cur.size ∧ (∀ i, i < n → cur[i]? = some (.int .u8 (zs.getD i 0))) ∧ (n ≤ fr.1 ∨ fr.2 = 0))
theorem RowB.nil (w : World) : RowB w (.slice none 0 0) 0 [] := ⟨rfl, .inl ⟨rfl, rfl⟩⟩
theorem DQ.rowB {B : Nat} {w : World} {v : Value} {dz : List Int} (h : DQ B w v dz) : RowB w v dz.length dz := by
  obtain ⟨g, c, h1, _, h2, cur, fr, h3, h4, h5, h6⟩ := h
  exact ⟨rfl, .inr ⟨g, c, cur, fr, h1, h3, h4, h5, .inl h6⟩⟩
theorem OwnV.rowB {B : Nat} {w : World} {v : Value} {n : Nat} {zs : List Int} (h : OwnV B w v n zs) : RowB w v n zs := by
  have hl := h.len
  refine ⟨hl, ?_⟩
  rcases h.2 with h' | ⟨g, cap, cur, rfl, _, hg, hsz, hc⟩
  · exact .inl h'
  · have hcell := fun (i : Nat) (hi : i < n) => World.ownsRow.cellAt h i (by omega)
    have hcur : ∀ i : Nat, i < n → cur[i]? = Option.some (Value.int .u8 (zs.getD i 0)) := fun i hi => by
      have h2 := hcell i hi
      rw [cell_of_row w g i cur 5 (0, 0) hg] at h2
      rw [h2]
      have hz : i < zs.length := by omega
      simp [hz]
    refine .inr ⟨g, cap, cur, (0, 0), rfl, hg, ?_, hcur, .inr rfl⟩
    by_cases h0 : n = 0
    · omega
    · have h2 := hcur (n - 1) (by omega)
      have := (Array.getElem?_eq_some_iff.1 h2).1
      omega
theorem RowB.cell {w : World} {g c n : Nat} {zs : List Int} (h : RowB w (.slice (some ⟨g, 0, none⟩) n c) n zs) (i : Nat) (hi : i < n) : w.cell? ⟨g, i, none⟩ = some (.int .u8 (zs.getD i 0)) ∧ w.frozen? ⟨g, i, none⟩ = false := by
  rcases h.2 with ⟨h1, _⟩ | ⟨g', c', cur, fr, h1, hg, hsz, hc, hf⟩
  · simp at h1
  · simp only [Value.slice.injEq, Option.some.injEq, Addr.mk.injEq, and_true, true_and] at h1
    obtain ⟨rfl, rfl⟩ := h1
    rw [cell_of_row w g i cur 5 fr hg]
    refine ⟨hc i hi, ?_⟩
    obtain ⟨lo, hi'⟩ := fr
    simp only [World.frozen?, hg]
    simp only at hf
    rcases hf with hf | hf
    · have : ¬ lo ≤ i := by omega
      simp [this]
    · subst hf
      simp
theorem RowB.stored {w : World} {g c n : Nat} {zs : List Int} (h : RowB w (.slice (some ⟨g, 0, none⟩) n c) n zs) (k : Nat) (z : Int) (hk : k < n) : RowB (w.setCell ⟨g, k, none⟩ (.int .u8 z)) (.slice (some ⟨g, 0, none⟩) n c) n (zs.set k z) := by
  have hl := h.1
  refine ⟨by simpa using hl, ?_⟩
  rcases h.2 with ⟨h1, _⟩ | ⟨g', c', cur, fr, h1, hg, hsz, hc, hf⟩
  · simp at h1
  · simp only [Value.slice.injEq, Option.some.injEq, Addr.mk.injEq, and_true, true_and] at h1
    obtain ⟨rfl, rfl⟩ := h1
    refine .inr ⟨g, c, cur.setIfInBounds k (.int .u8 z), fr, rfl, by simp [World.setCell, Array.getElem?_modify, hg], by simpa using hsz, fun i hi => ?_, hf⟩
    by_cases e : k = i
    · subst e
      have hk2 : k < cur.size := by omega
      have hk3 : k < zs.length := by omega
      simp [hk2, hk3]
    · rw [Array.getElem?_setIfInBounds_ne e, hc i hi]
      simp [List.getD_eq_getElem?_getD, List.getElem?_set_ne e]
theorem RowB.block {w w' : World} {v : Value} {n : Nat} {zs : List Int} (h : RowB w v n zs) (hb : ∀ g, v.ownBlock = some g → w'.heap[g]? = w.heap[g]?) : RowB w' v n zs := by
  refine ⟨h.1, ?_⟩
  rcases h.2 with h1 | ⟨g, c, cur, fr, rfl, hg, rest⟩
  · exact .inl h1
  · exact .inr ⟨g, c, cur, fr, rfl, (hb g rfl).trans hg, rest⟩
theorem RowB.at_ {w : World} {v : Value} {n g : Nat} {zs : List Int} (h : RowB w v n zs) (hv : v.ownBlock = some g) : g < w.heap.size ∧ ∃ cur fr, w.heap[g]? = some (.cells cur 5 fr) := by
  rcases h.2 with ⟨rfl, _⟩ | ⟨g', c, cur, fr, rfl, hg, _⟩
  · simp [Value.ownBlock] at hv
  · simp [Value.ownBlock] at hv
    subst hv
    exact ⟨(Array.getElem?_eq_some_iff.1 hg).1, cur, fr, hg⟩
theorem RowB.form {w : World} {v : Value} {n : Nat} {zs : List Int} (h : RowB w v n zs) : ∃ a c, v = .slice a n c ∧ Rd w a zs := by
  have hl := h.1
  rcases h.2 with ⟨rfl, rfl⟩ | ⟨g, c, cur, fr, rfl, hg, _, hc, _⟩
  · exact ⟨none, 0, rfl, .inl (List.length_eq_zero_iff.1 hl)⟩
  · refine ⟨some ⟨g, 0, none⟩, c, rfl, .inr ⟨g, 0, rfl, fun i hi => ?_⟩⟩
    rw [Nat.zero_add, cell_of_row w g i cur 5 fr hg]
    exact hc i (by omega)
/-- All blocks but one are as they were. -/
theorem gr_block {w w' : World} {r : Option Nat} (h : w.grownBy w' r) {g : Nat} (hg : g < w.heap.size) (hne : r ≠ some g) : w'.heap[g]? = w.heap[g]? := h.block g hg (fun e => hne e.symm)
/-- The bytes behind k rounds of marking from k0 on. -/
def mksG (k0 : Nat) (zs : List Int) (k : Nat) : List Int := (List.range k).map (fun i : Nat => (((k0 + i : Nat) : Int)) % 256) ++ zs.drop k
theorem mksG_zero (k0 : Nat) (zs : List Int) : mksG k0 zs 0 = zs := by simp [mksG]
theorem mksG_set (k0 : Nat) (zs : List Int) (k : Nat) (h : k < zs.length) : (mksG k0 zs k).set k (((k0 + k : Nat) : Int) % 256) = mksG k0 zs (k + 1) := by
  unfold mksG
  rw [List.set_append_right _ _ (by simp)]
  have e : k - ((List.range k).map (fun i : Nat => (((k0 + i : Nat) : Int)) % 256)).length = 0 := by simp
  rw [e, List.drop_eq_getElem_cons h, List.set_cons_zero, List.range_succ, List.map_append, List.append_assoc]
  rfl
def marksG (k0 n : Nat) : List Int := (List.range n).map (fun i : Nat => (((k0 + i : Nat) : Int)) % 256)
theorem mksG_all (k0 : Nat) (zs : List Int) (n : Nat) (h : zs.length = n) : mksG k0 zs n = marksG k0 n := by subst h; simp [mksG, marksG]
theorem marksG_at (k0 n k : Nat) (h : k < n) : (marksG k0 n).getD k 0 = ((k0 + k : Nat) : Int) % 256 := by simp [marksG, h]
set_option maxHeartbeats 800000 in
theorem markBG (v : Value) (n k0 : Nat) (zs : List Int) (w : World) (h1 : 1 ≤ k0) (hs : k0 + n ≤ 9999990) (hown : RowB w v n zs) :
    Calls Tryz.prog 52 #[v, .int .i64 k0] w fun e w' => e = .returned (.int .i64 ((k0 + n : Nat) : Int)) ∧ RowB w' v n (marksG k0 n) ∧ w.grownBy w' v.ownBlock := by
  rcases hown.2 with ⟨rfl, rfl⟩ | ⟨g, c, cur, fr, rfl, _⟩
  · go_enter Tryz.func52, Tryz.ntmps52
    go_wp2
    refine wp_loop_rounds 1 ?_; rw [rounds_succ]
    go_wp2
    go_ret
    exact ⟨rfl, RowB.nil _, gr_refl w _⟩
  · have hn' : Hid (zs.length = n) := hown.1
    go_enter Tryz.func52, Tryz.ntmps52
    go_wp2
    go_loopw [1, 5] (fun q i wr => ∃ k : Nat, k ≤ n ∧ i = .int .i64 k ∧ q = .int .i64 ((k0 + k : Nat) : Int) ∧ RowB wr (.slice (some ⟨g, 0, none⟩) n c) n (mksG k0 zs k) ∧ w.grownBy wr (some g)) (fun _ i _ => n - (intOf i).toNat)
    case atStart => exact ⟨0, Nat.zero_le _, rfl, rfl, by rw [mksG_zero]; exact hown, gr_refl w _⟩
    case round =>
      obtain ⟨k, hk, rfl, rfl, ho, hgr⟩ := hrel
      obtain ⟨q, hq⟩ : ∃ q, k0 + k = q := ⟨_, rfl⟩
      rw [hq]
      by_cases hkn : k < n
      · have hki : (k : Int) < (n : Int) := by omega
        obtain ⟨hcy, hfy⟩ := ho.cell k hkn
        have hst := ho.stored k ((q : Int) % 256) hkn
        rw [← hq, mksG_set k0 zs k (by rw [hn'.out]; exact hkn), hq] at hst
        have hgr' : w.grownBy (wr.setCell ⟨g, k, none⟩ (.int .u8 ((q : Int) % 256))) (some g) := hgr.trans (gr_setC wr g k _)
        generalize (mksG k0 zs k).getD k 0 = y at hcy
        clear ho hgr
        go_wp2
        go_roundw
        case rel => exact ⟨k + 1, by omega, by go_num, by rw [show k0 + (k + 1) = q + 1 by omega]; go_num, hst, hgr'⟩
        case measure => simp [intOf]; omega
      · have hki : ¬ (k : Int) < (n : Int) := by omega
        go_wp2
        go_ret
        obtain rfl : k = n := by omega
        rw [mksG_all k0 zs k hn'.out] at ho
        exact ⟨by show Ending.returned (.int .i64 (q : Int)) = _; rw [← hq]; first | rfl | simp, ho, hgr⟩
set_option maxHeartbeats 800000 in
theorem heldBG (v : Value) (n k0 : Nat) (w : World) (h1 : 1 ≤ k0) (hs : k0 + n ≤ 9999990) (hown : RowB w v n (marksG k0 n)) :
    Calls Tryz.prog 146 #[v, .int .i64 k0] w fun e w' => e = .returned (.int .i64 ((k0 + n : Nat) : Int)) ∧ w' = w := by
  rcases hown.2 with ⟨rfl, rfl⟩ | ⟨g, c, cur, fr, rfl, _⟩
  · go_enter Tryz.func146, Tryz.ntmps146
    go_wp2
    refine wp_loop_rounds 1 ?_; rw [rounds_succ]
    go_wp2
    go_ret
    exact ⟨rfl, rfl⟩
  · have HO : Hid _ := hown
    clear hown
    go_enter Tryz.func146, Tryz.ntmps146
    go_wp2
    go_loop [1, 5] (fun q i => ∃ k : Nat, k ≤ n ∧ i = .int .i64 k ∧ q = .int .i64 ((k0 + k : Nat) : Int)) (fun _ i => n - (intOf i).toNat)
    case atStart => exact ⟨0, Nat.zero_le _, rfl, rfl⟩
    case round =>
      obtain ⟨k, hk, rfl, rfl⟩ := hrel
      obtain ⟨q, hq⟩ : ∃ q, k0 + k = q := ⟨_, rfl⟩
      rw [hq]
      by_cases hkn : k < n
      · have hki : (k : Int) < (n : Int) := by omega
        have hcy := (RowB.cell HO.out k hkn).1
        rw [marksG_at k0 n k hkn, hq] at hcy
        go_wp2
        go_round
        case rel => exact ⟨k + 1, by omega, by go_num, by rw [show k0 + (k + 1) = q + 1 by omega]; go_num⟩
        case measure => simp [intOf]; omega
      · have hki : ¬ (k : Int) < (n : Int) := by omega
        go_wp2
        go_ret
        obtain rfl : k = n := by omega
        exact ⟨by show Ending.returned (.int .i64 (q : Int)) = _; rw [← hq]; first | rfl | simp, rfl⟩
end

section
open Go.RowKit
/-- The lists of an inode: each nil or of the call's own, in blocks from B up to T. -/
structure InoG (w : World) (B T : Nat) (D : InoD) (v1 v2 v3 : Value) : Prop where
  data : OwnV 0 w v1 D.data.length D.data
  byt : Byt D.data
  ents : OwnQ 86 w v2 D.ents.length (eP D.ents)
  attrs : OwnQ 89 w v3 D.attrs.length (aP D.attrs)
  within : ∀ g, (v1.ownBlock = some g ∨ v2.ownBlock = some g ∨ v3.ownBlock = some g) → B ≤ g ∧ g < T
/-- The same, marked from k0 on. -/
structure InoGM (w : World) (B T k0 n1 n2 n3 : Nat) (v1 v2 v3 : Value) : Prop where
  data : RowB w v1 n1 (marksG k0 n1)
  ents : OwnQ 86 w v2 n2 ((List.range n2).map (mE (k0 + n1)))
  attrs : OwnQ 89 w v3 n3 ((List.range n3).map (mA (k0 + n1 + 2 * n2)))
  within : ∀ g, (v1.ownBlock = some g ∨ v2.ownBlock = some g ∨ v3.ownBlock = some g) → B ≤ g ∧ g < T
/-- All blocks outside the interval are as they were. -/
structure Out (B T : Nat) (w w' : World) : Prop where
  os : w'.os = w.os
  tape : w'.tape = w.tape
  output : w'.output = w.output
  size : w.heap.size ≤ w'.heap.size
  block : ∀ k, k < w.heap.size → (k < B ∨ T ≤ k) → w'.heap[k]? = w.heap[k]?
theorem Out.refl (B T : Nat) (w : World) : Out B T w w := ⟨rfl, rfl, rfl, Nat.le_refl _, fun _ _ _ => rfl⟩
theorem Out.trans {B T : Nat} {a b c : World} (h : Out B T a b) (k : Out B T b c) : Out B T a c :=
  ⟨k.os.trans h.os, k.tape.trans h.tape, k.output.trans h.output, Nat.le_trans h.size k.size, fun i hi ho => (k.block i (Nat.lt_of_lt_of_le hi h.size) ho).trans (h.block i hi ho)⟩
theorem Out.wider {B T B' T' : Nat} {a b : World} (h : Out B T a b) (h1 : B' ≤ B) (h2 : T ≤ T') : Out B' T' a b :=
  ⟨h.os, h.tape, h.output, h.size, fun i hi ho => h.block i hi (by omega)⟩
theorem Below.out {a b : World} (h : Below a.heap.size a b) (B T : Nat) : Out B T a b := ⟨h.os, h.tape, h.output, h.size, fun k hk _ => h.block k hk⟩
theorem Out.gr {B T : Nat} {a b : World} {r : Option Nat} (h : a.grownBy b r) (hr : ∀ g, r = some g → B ≤ g ∧ g < T) : Out B T a b :=
  ⟨h.os, h.tape, h.output, h.size, fun k hk ho => h.block k hk (fun e => by have := hr k e.symm; omega)⟩
theorem Below.outs {H B T : Nat} {w0 w w' : World} (h : Below H w0 w) (k : Out B T w w') (hB : H ≤ B) (hH : H ≤ w0.heap.size) : Below H w0 w' :=
  ⟨k.os.trans h.os, k.tape.trans h.tape, k.output.trans h.output, Nat.le_trans h.size k.size, fun i hi => (k.block i (Nat.lt_of_lt_of_le hi (Nat.le_trans hH h.size)) (.inl (by omega))).trans (h.block i hi)⟩
theorem Blk.outs {W W' : World} {b B T : Nat} {t : TypeId} {vs : Array Value} (h : Blk W b t vs) (k : Out B T W W') (hb : b < B ∨ T ≤ b) : Blk W' b t vs := (k.block b h.lt hb).trans h
theorem q_block {e : TypeId} {w w' : World} {v : Value} {n : Nat} {ps : List VP} (h : OwnQ e w v n ps) (hb : ∀ g, v.ownBlock = some g → w'.heap[g]? = w.heap[g]?) : OwnQ e w' v n ps := by
  refine ⟨h.1, ?_⟩
  rcases h.2 with h' | ⟨g', cap, cur, rfl, hb', hgg, rest⟩
  · exact .inl h'
  · exact .inr ⟨g', cap, cur, rfl, hb', (hb g' rfl).trans hgg, rest⟩
theorem ownV_same {B : Nat} {w w' : World} {v : Value} {n : Nat} {zs : List Int} (h : OwnV B w v n zs) (hb : ∀ g, v.ownBlock = some g → w'.heap[g]? = w.heap[g]?) : OwnV B w' v n zs := by
  refine ⟨h.1, ?_⟩
  rcases h.2 with h' | ⟨g', cap, cur, rfl, hb', hgg, rest⟩
  · exact .inl h'
  · exact .inr ⟨g', cap, cur, rfl, hb', (hb g' rfl).trans hgg, rest⟩
theorem InoG.kept {w w' : World} {B T : Nat} {D : InoD} {v1 v2 v3 : Value} (h : InoG w B T D v1 v2 v3) (k : ∀ b, B ≤ b → b < T → w'.heap[b]? = w.heap[b]?) : InoG w' B T D v1 v2 v3 :=
  ⟨ownV_same h.data fun g hg => k g (h.within g (.inl hg)).1 (h.within g (.inl hg)).2, h.byt, q_block h.ents fun g hg => k g (h.within g (.inr (.inl hg))).1 (h.within g (.inr (.inl hg))).2, q_block h.attrs fun g hg => k g (h.within g (.inr (.inr hg))).1 (h.within g (.inr (.inr hg))).2, h.within⟩
theorem InoGM.kept {w w' : World} {B T k0 n1 n2 n3 : Nat} {v1 v2 v3 : Value} (h : InoGM w B T k0 n1 n2 n3 v1 v2 v3) (k : ∀ b, B ≤ b → b < T → w'.heap[b]? = w.heap[b]?) : InoGM w' B T k0 n1 n2 n3 v1 v2 v3 :=
  ⟨h.data.block fun g hg => k g (h.within g (.inl hg)).1 (h.within g (.inl hg)).2, q_block h.ents fun g hg => k g (h.within g (.inr (.inl hg))).1 (h.within g (.inr (.inl hg))).2, q_block h.attrs fun g hg => k g (h.within g (.inr (.inr hg))).1 (h.within g (.inr (.inr hg))).2, h.within⟩
theorem InoG.keep {w w' : World} {B T : Nat} {D : InoD} {v1 v2 v3 : Value} (h : InoG w B T D v1 v2 v3) (hT : T ≤ w.heap.size) (hb : Below w.heap.size w w') : InoG w' B T D v1 v2 v3 := h.kept fun b _ hb' => hb.block b (by omega)
theorem InoGM.keep {w w' : World} {B T k0 n1 n2 n3 : Nat} {v1 v2 v3 : Value} (h : InoGM w B T k0 n1 n2 n3 v1 v2 v3) (hT : T ≤ w.heap.size) (hb : Below w.heap.size w w') : InoGM w' B T k0 n1 n2 n3 v1 v2 v3 := h.kept fun b _ hb' => hb.block b (by omega)
theorem InoG.outs {w w' : World} {B T B' T' : Nat} {D : InoD} {v1 v2 v3 : Value} (h : InoG w B T D v1 v2 v3) (hT : T ≤ w.heap.size) (k : Out B' T' w w') (hd : T ≤ B' ∨ T' ≤ B) : InoG w' B T D v1 v2 v3 := h.kept fun b h1 h2 => k.block b (by omega) (by omega)
theorem InoG.wider {w : World} {B T B' T' : Nat} {D : InoD} {v1 v2 v3 : Value} (h : InoG w B T D v1 v2 v3) (h1 : B' ≤ B) (h2 : T ≤ T') : InoG w B' T' D v1 v2 v3 := ⟨h.data, h.byt, h.ents, h.attrs, fun g hg => by have := h.within g hg; omega⟩
theorem InoG.form {w : World} {B T : Nat} {D : InoD} {v1 v2 v3 : Value} (h : InoG w B T D v1 v2 v3) : ∃ a1 c1 a2 c2 a3 c3, v1 = .slice a1 D.data.length c1 ∧ v2 = .slice a2 D.ents.length c2 ∧ v3 = .slice a3 D.attrs.length c3 ∧ InoRd w D a1 a2 a3 := by
  obtain ⟨a1, c1, e1, r1⟩ := (OwnV.rowB h.data).form
  have f : ∀ {e : TypeId} {v : Value} {n : Nat} {ps : List VP}, OwnQ e w v n ps → ∃ a c, v = .slice a n c ∧ RdP w a ps := fun {e v n ps} h => by
    rcases h.cases with ⟨rfl, rfl, rfl⟩ | ⟨g, c, rfl, ho⟩
    · exact ⟨none, 0, rfl, .inl rfl⟩
    · exact ⟨_, c, rfl, ho.rd⟩
  obtain ⟨a2, c2, e2, r2⟩ := f h.ents
  obtain ⟨a3, c3, e3, r3⟩ := f h.attrs
  exact ⟨a1, c1, a2, c2, a3, c3, e1, e2, e3, ⟨r1, h.byt, r2, r3⟩⟩
theorem rowB_ne {w : World} {v v' : Value} {n n' : Nat} {zs : List Int} {e : TypeId} {ps : List VP} (h : RowB w v n zs) (h' : OwnQ e w v' n' ps) (he : e ≠ 5) {g : Nat} (hg : v.ownBlock = some g) : v'.ownBlock ≠ some g := by
  intro hg'
  obtain ⟨_, c1, fr, h1⟩ := h.at_ hg
  obtain ⟨_, c2, h2⟩ := row_at h' hg'
  rw [h1] at h2
  simp at h2
  exact he h2.2.1.symm
end
end Go.Proofs.YtnfplimhhjpbkaaGreatDoor
