/-
  Joined: OpPut, MarkGI.
-/
import Derived.Test.YtjaicciilehlnaaJ14S
import Derived.Test.YtjaicciilehlnaaJ15S
import Derived.Test.YtjaicciilehlnaaJ06S
namespace Go.Proofs.Ytjaicciilehlnaa
section
open Go.RowKit
/-- An operation that has bytes. -/
def opOk (D : OpD) : Bool := decide (1 ≤ D.kind) && decide (D.kind ≤ 14) && decide (0 ≤ D.vol) && decide (D.vol ≤ 1000000) && decide (0 ≤ D.off) && decide (D.off ≤ 1000000)
/-- The bytes of an operation. -/
def opEnc (D : OpD) : List Int := encs [D.kind, D.vol] ++ encTs [D.path, D.dest] ++ encs [D.off] ++ encTs [str D.data]
theorem encs_len2 (x y : Int) : (encs [x, y]).length ≤ 8 := by
  have i1 := enc_len x
  have i2 := enc_len y
  simp only [encs, List.flatMap_cons, List.flatMap_nil, List.length_append, List.length_nil]
  omega
theorem encTs_len2 (x y : ByteArray) : (encTs [x, y]).length ≤ x.size + y.size + 8 := by
  have i1 := encT_len x
  have i2 := encT_len y
  simp only [encTs, List.flatMap_cons, List.flatMap_nil, List.length_append, List.length_nil]
  omega
theorem encs_len1 (x : Int) : (encs [x]).length ≤ 4 := by rw [encs_one]; exact enc_len x
theorem encTs_len1 (x : ByteArray) : (encTs [x]).length ≤ x.size + 4 := by rw [encTs_one]; exact encT_len x
theorem opEnc_len (D : OpD) (h : OpSmall D) : (opEnc D).length ≤ 1048600 := by
  unfold OpSmall at h
  have h1 := encs_len2 D.kind D.vol
  have h2 := encTs_len2 D.path D.dest
  have h3 := encs_len1 D.off
  have h4 := encTs_len1 (str D.data)
  rw [str_size] at h4
  unfold opEnc
  simp only [List.length_append]
  omega
theorem specNumB (g c : Nat) (acc : List Int) (x : Int) (W : World) (hs : acc.length ≤ 2000000) (ho : Own W g acc.length c acc) :
    Calls Try.prog 44 #[.slice (some ⟨g, 0, none⟩) acc.length c, .int .i64 x] W (PutPost W (acc ++ enc x).length (acc ++ enc x)) := by
  have h := specPutNum_any ⟨g, 0, none⟩ acc.length c acc x W rfl (by omega) ho.rd
  rw [← List.length_append] at h
  exact h
end

section
open Go.RowKit
/-- All blocks outside the interval are as they were. -/
structure Out (B T : Nat) (w w' : World) : Prop where
  os : w'.os = w.os
  tape : w'.tape = w.tape
  output : w'.output = w.output
  size : w.heap.size ≤ w'.heap.size
  block : ∀ k, k < w.heap.size → (k < B ∨ T ≤ k) → w'.heap[k]? = w.heap[k]?
theorem Out.refl (B T : Nat) (w : World) : Out B T w w := ⟨rfl, rfl, rfl, Nat.le_refl _, fun _ _ _ => rfl⟩
theorem Out.trans {B T : Nat} {a b c : World} (h : Out B T a b) (k : Out B T b c) : Out B T a c :=
  ⟨k.os.trans h.os, k.tape.trans h.tape, k.output.trans h.output, Nat.le_trans h.size k.size, fun i hi ho => (k.block i (Nat.lt_of_lt_of_le hi h.size) ho).trans (h.block i hi ho)⟩
theorem Below.out {a b : World} (h : Below a.heap.size a b) (B T : Nat) : Out B T a b := ⟨h.os, h.tape, h.output, h.size, fun k hk _ => h.block k hk⟩
theorem Out.gr {B T : Nat} {a b : World} {r : Option Nat} (h : a.grownBy b r) (hr : ∀ g, r = some g → B ≤ g ∧ g < T) : Out B T a b :=
  ⟨h.os, h.tape, h.output, h.size, fun k hk ho => h.block k hk (fun e => by have := hr k e.symm; omega)⟩
end
end Go.Proofs.Ytjaicciilehlnaa
