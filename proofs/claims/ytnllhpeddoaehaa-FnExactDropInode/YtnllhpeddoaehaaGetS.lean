/-
  What is kept while an inode is read: blocks by their type; a row of pairs grown by one.
-/
import Derived.Test.YtnllhpeddoaehaaClosI
import Derived.Lib.ConvBytes
import Derived.Deep.RegionHeld3
import Derived.Deep.AppendLies
namespace Go.Proofs.Ytnllhpeddoaehaa
open Go.RowKit

/-- All blocks of these types are as they were. -/
def KpT (W W' : World) (ts : List TypeId) : Prop := ∀ (B : Nat) (cur : Array Value) (t : TypeId) (fr : Nat × Nat), W.heap[B]? = some (Obj.cells cur t fr) → t ∈ ts → W'.heap[B]? = W.heap[B]?
theorem KpT.below {W W' : World} (h : Below W.heap.size W W') (ts : List TypeId) : KpT W W' ts := fun B _ _ _ hB _ => h.block B (Array.getElem?_eq_some_iff.1 hB).1
theorem KpT.grown {W W' : World} {R : Nat} {t : TypeId} {vs : Array Value} {ts : List TypeId} (h : W.grownBy W' (some R)) (hb : Blk W R t vs) (ht : t ∉ ts) : KpT W W' ts := fun B cur t' fr hB hm => h.block B (Array.getElem?_eq_some_iff.1 hB).1 (fun e => by
  simp at e
  subst e
  rw [show W.heap[B]? = _ from hb] at hB
  simp at hB
  exact ht (by rw [hB.2.1]; exact hm))
theorem KpT.row {W W' : World} {v : Value} {e : TypeId} {B s n : Nat} {xs : List Value} {ts : List TypeId} (h : W.grownBy W' v.ownBlock) (ho : W.ownsRow B e s v n xs) (ht : e ∉ ts) : KpT W W' ts := fun b cur t' fr hB hm => h.block b (Array.getElem?_eq_some_iff.1 hB).1 (fun q => by
  obtain ⟨_, c, hc⟩ := row_at ho q.symm
  rw [hc] at hB
  simp at hB
  exact ht (by rw [hB.2.1]; exact hm))
theorem KpT.but {W W' : World} {r1 r2 : Nat} {t1 t2 : TypeId} {u1 u2 : Array Value} {ts : List TypeId} (h : But W W' (some r1) (some r2) none) (h1 : Blk W r1 t1 u1) (h2 : Blk W r2 t2 u2) (n1 : t1 ∉ ts) (n2 : t2 ∉ ts) : KpT W W' ts := fun B cur t' fr hB hm => by
  refine h.block B (Array.getElem?_eq_some_iff.1 hB).1 (fun e => ?_) (fun e => ?_) (by simp)
  · simp at e
    subst e
    rw [show W.heap[B]? = _ from h1] at hB
    simp at hB
    exact n1 (by rw [hB.2.1]; exact hm)
  · simp at e
    subst e
    rw [show W.heap[B]? = _ from h2] at hB
    simp at hB
    exact n2 (by rw [hB.2.1]; exact hm)
theorem Blk.kp {W W' : World} {B : Nat} {t : TypeId} {vs : Array Value} {ts : List TypeId} (h : Blk W B t vs) (k : KpT W W' ts) (ht : t ∈ ts) : Blk W' B t vs := (k B _ _ _ h ht).trans h
theorem OwnB.kp {W W' : World} {g n : Nat} {zs : List Int} {ts : List TypeId} (h : OwnB W g n zs) (k : KpT W W' ts) (ht : 5 ∈ ts) : OwnB W' g n zs := by
  have h' := h
  obtain ⟨_, cur, fr, hg, _⟩ := h'
  exact h.block (k g _ _ _ hg ht)
theorem row_kp {W W' : World} {v : Value} {e : TypeId} {B s n : Nat} {xs : List Value} {ts : List TypeId} (h : W.ownsRow B e s v n xs) (k : KpT W W' ts) (ht : e ∈ ts) : W'.ownsRow B e s v n xs := by
  refine ⟨h.1, ?_⟩
  rcases h.2 with h' | ⟨g', cap', cur, h', hb', hgg, rest⟩
  · exact .inl h'
  · exact .inr ⟨g', cap', cur, h', hb', (k g' _ _ _ hgg ht).trans hgg, rest⟩
theorem RS.kp {W W' : World} {R : Nat} {a : Option Addr} {n cap : Nat} {st : Option Nat} {ts : List TypeId} (h : RS W R a n cap st) (k : KpT W W' ts) (ht : 92 ∈ ts) : RS W' R a n cap st := by
  obtain ⟨p, h1, h2⟩ := h
  exact ⟨p, h1.kp k ht, h2⟩
theorem RI.kp {W W' : World} {H : Nat} {a : Option Addr} {n cap : Nat} {st : Option Nat} {ts : List TypeId} (h : RI W H a n cap st) (k : KpT W W' ts) (h1 : 22 ∈ ts) (h2 : 3 ∈ ts) (h3 : 4 ∈ ts) : RI W' H a n cap st := by
  obtain ⟨p, b0, b1, b2, hp⟩ := h
  exact ⟨p, b0.kp k h1, b1.kp k h2, b2.kp k h3, hp⟩

/-- The data: nothing yet, or a list of its own. -/
def DQ (B : Nat) (W : World) (v : Value) (dz : List Int) : Prop := ∃ g c, v = .slice (some ⟨g, 0, none⟩) dz.length c ∧ B ≤ g ∧ OwnB W g dz.length dz
theorem DQ.kp {B : Nat} {W W' : World} {v : Value} {dz : List Int} {ts : List TypeId} (h : DQ B W v dz) (k : KpT W W' ts) (ht : 5 ∈ ts) : DQ B W' v dz := by
  obtain ⟨g, c, h1, h2, h3⟩ := h
  exact ⟨g, c, h1, h2, h3.kp k ht⟩

/-- A text turned into bytes: a new block. -/
theorem conv_str (w : World) (s : ByteArray) : ∃ c W, (convert 9 22 (.string s)).run Try.prog w = .ok (.slice (some ⟨w.heap.size, 0, none⟩) s.size c) W ∧ OwnB W w.heap.size s.size (strZ s) ∧ Below w.heap.size w W := by
  refine ⟨_, _, Lib.run_convert_string_bytes w 9 22 5 s Try.underlying9 Try.underlying22 Try.underlying5, ?_, ?_⟩
  · have hsz : (Lib.bytesCells w 5 s).size = s.size + (grownCap w s.size 0 5 - s.size) := by simp [Lib.bytesCells]
    refine ⟨strZ_len s, _, _, Lib.bytesWorld_at_new w 5 s, by omega, fun i hi => ?_, by show s.size ≤ (Lib.bytesCells w 5 s).size; omega⟩
    have := Lib.bytesWorld_cell w 5 s i hi
    rw [cell_of_row _ _ i _ 5 _ (Lib.bytesWorld_at_new w 5 s)] at this
    rw [this]
    have hl : i < s.data.toList.length := by rw [Array.length_toList]; exact hi
    simp only [strZ, List.getD_eq_getElem?_getD, List.getElem?_map, List.getElem?_eq_getElem hl, Option.map_some, Option.getD_some]
  · exact ⟨rfl, rfl, rfl, by rw [Lib.bytesWorld_size]; omega, fun k hk => Lib.bytesWorld_at_old w 5 s k hk⟩
end Go.Proofs.Ytnllhpeddoaehaa
