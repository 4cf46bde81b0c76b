/-
  What is kept while an inode is read or copied: blocks by their type; rows of bytes and of pairs, grown by one.
-/
import Derived.Test.YtmkcadnpleijdaaMarkInoQ
import Derived.Lib.ConvBytes
import Derived.Deep.RegionHeld3
import Derived.Deep.AppendLies
namespace Go.Proofs.Ytmkcadnpleijdaa
open Go.RowKit
theorem Blk.newAt {W : World} {ad : Nat} {t : TypeId} {vs : Array Value} (h : ad = W.heap.size) : Blk (W.alloc (.cells vs t)) ad t vs := by subst h; exact Blk.new W t vs
theorem OwnV.drew {B : Nat} {w : World} {v : Value} {n : Nat} {zs : List Int} (h : OwnV B w v n zs) : OwnV B w.drew v n zs := h
theorem Blk.drew {w : World} {B : Nat} {t : TypeId} {vs : Array Value} (h : Blk w B t vs) : Blk w.drew B t vs := h
theorem Kp.drew {w w' : World} (h : Kp w w') : Kp w w'.drew := h
/-- The bytes behind a text that was turned into a list of its own: of the block's cells the first are zs, none of them held fast. -/
def OwnB (W : World) (g n : Nat) (zs : List Int) : Prop :=
  zs.length = n ∧ ∃ cur fr, W.heap[g]? = some (.cells cur 5 fr) ∧ n ≤ cur.size ∧ (∀ i, i < n → cur[i]? = some (.int .u8 (zs.getD i 0))) ∧ n ≤ fr.1
theorem OwnB.lt {W : World} {g n : Nat} {zs : List Int} (h : OwnB W g n zs) : g < W.heap.size := by
  obtain ⟨_, cur, fr, hg, _⟩ := h
  exact (Array.getElem?_eq_some_iff.1 hg).1
theorem OwnB.cell {W : World} {g n : Nat} {zs : List Int} (h : OwnB W g n zs) (i : Nat) (hi : i < n) : W.cell? ⟨g, i, none⟩ = some (.int .u8 (zs.getD i 0)) := by
  obtain ⟨_, cur, fr, hg, _, hc, _⟩ := h
  rw [cell_of_row W g i cur 5 fr hg]
  exact hc i hi
theorem OwnB.rd {W : World} {g n : Nat} {zs : List Int} (h : OwnB W g n zs) : Rd W (some ⟨g, 0, none⟩) zs := by
  refine .inr ⟨g, 0, rfl, fun i hi => ?_⟩
  rw [Nat.zero_add]
  exact h.cell i (by rw [← h.1]; exact hi)
theorem OwnB.block {W W' : World} {g n : Nat} {zs : List Int} (h : OwnB W g n zs) (hb : W'.heap[g]? = W.heap[g]?) : OwnB W' g n zs := by
  obtain ⟨hl, cur, fr, hg, rest⟩ := h
  exact ⟨hl, cur, fr, hb.trans hg, rest⟩
theorem OwnB.keep {W W' : World} {g n : Nat} {zs : List Int} (h : OwnB W g n zs) (hb : Below W.heap.size W W') : OwnB W' g n zs := h.block (hb.block g h.lt)
theorem OwnB.kept {W W' : World} {g n : Nat} {zs : List Int} (h : OwnB W g n zs) {r : Option Nat} (hg : W.grownBy W' r) (hne : some g ≠ r) : OwnB W' g n zs := h.block (hg.block g h.lt hne)
/-- All blocks of these types are as they were. -/
def KpT (W W' : World) (ts : List TypeId) : Prop := ∀ (B : Nat) (cur : Array Value) (t : TypeId) (fr : Nat × Nat), W.heap[B]? = some (Obj.cells cur t fr) → t ∈ ts → W'.heap[B]? = W.heap[B]?
theorem KpT.below {W W' : World} (h : Below W.heap.size W W') (ts : List TypeId) : KpT W W' ts := fun B _ _ _ hB _ => h.block B (Array.getElem?_eq_some_iff.1 hB).1
theorem KpT.grown {W W' : World} {R : Nat} {t : TypeId} {vs : Array Value} {ts : List TypeId} (h : W.grownBy W' (some R)) (hb : Blk W R t vs) (ht : t ∉ ts) : KpT W W' ts := fun B cur t' fr hB hm => h.block B (Array.getElem?_eq_some_iff.1 hB).1 (fun e => by
  simp at e
  subst e
  rw [show W.heap[B]? = _ from hb] at hB
  simp at hB
  exact ht (by rw [hB.2.1]; exact hm))
theorem KpT.row {W W' : World} {v : Value} {e : TypeId} {B s n : Nat} {xs : List Value} {ts : List TypeId} (h : W.grownBy W' v.ownBlock) (ho : W.ownsRow B e s v n xs) (ht : e ∉ ts) : KpT W W' ts := fun b cur t' fr hB hm => h.block b (Array.getElem?_eq_some_iff.1 hB).1 (fun q => by
  obtain ⟨_, c, hc⟩ := row_at ho q.symm
  rw [hc] at hB
  simp at hB
  exact ht (by rw [hB.2.1]; exact hm))
theorem KpT.but {W W' : World} {r1 r2 : Nat} {t1 t2 : TypeId} {u1 u2 : Array Value} {ts : List TypeId} (h : But W W' (some r1) (some r2) none) (h1 : Blk W r1 t1 u1) (h2 : Blk W r2 t2 u2) (n1 : t1 ∉ ts) (n2 : t2 ∉ ts) : KpT W W' ts := fun B cur t' fr hB hm => by
  refine h.block B (Array.getElem?_eq_some_iff.1 hB).1 (fun e => ?_) (fun e => ?_) (by simp)
  · simp at e
    subst e
    rw [show W.heap[B]? = _ from h1] at hB
    simp at hB
    exact n1 (by rw [hB.2.1]; exact hm)
  · simp at e
    subst e
    rw [show W.heap[B]? = _ from h2] at hB
    simp at hB
    exact n2 (by rw [hB.2.1]; exact hm)
theorem Blk.kp {W W' : World} {B : Nat} {t : TypeId} {vs : Array Value} {ts : List TypeId} (h : Blk W B t vs) (k : KpT W W' ts) (ht : t ∈ ts) : Blk W' B t vs := (k B _ _ _ h ht).trans h
theorem OwnB.kp {W W' : World} {g n : Nat} {zs : List Int} {ts : List TypeId} (h : OwnB W g n zs) (k : KpT W W' ts) (ht : 5 ∈ ts) : OwnB W' g n zs := by
  have h' := h
  obtain ⟨_, cur, fr, hg, _⟩ := h'
  exact h.block (k g _ _ _ hg ht)
theorem row_kp {W W' : World} {v : Value} {e : TypeId} {B s n : Nat} {xs : List Value} {ts : List TypeId} (h : W.ownsRow B e s v n xs) (k : KpT W W' ts) (ht : e ∈ ts) : W'.ownsRow B e s v n xs := by
  refine ⟨h.1, ?_⟩
  rcases h.2 with h' | ⟨g', cap', cur, h', hb', hgg, rest⟩
  · exact .inl h'
  · exact .inr ⟨g', cap', cur, h', hb', (k g' _ _ _ hgg ht).trans hgg, rest⟩
/-- The data: nothing yet, or a list of its own. -/
def DQ (B : Nat) (W : World) (v : Value) (dz : List Int) : Prop := ∃ g c, v = .slice (some ⟨g, 0, none⟩) dz.length c ∧ B ≤ g ∧ OwnB W g dz.length dz
theorem DQ.kp {B : Nat} {W W' : World} {v : Value} {dz : List Int} {ts : List TypeId} (h : DQ B W v dz) (k : KpT W W' ts) (ht : 5 ∈ ts) : DQ B W' v dz := by
  obtain ⟨g, c, h1, h2, h3⟩ := h
  exact ⟨g, c, h1, h2, h3.kp k ht⟩
theorem below_gr {B : Nat} {w0 W W' : World} {R : Nat} (h : Below B w0 W) (g : W.grownBy W' (some R)) (hB : B ≤ w0.heap.size) (hR : B ≤ R) : Below B w0 W' := h.grown g (Nat.le_trans hB h.size) (by intro k hk; simp at hk; omega)
end Go.Proofs.Ytmkcadnpleijdaa

