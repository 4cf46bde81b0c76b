/-
  Joined: ChEi, MarkGI, Fresh.
-/
import Derived.Test.YtpejfkgbfdkdnaaJ05B
import Derived.Deep.AppendSrc
import Derived.Deep.RegionLaw
import Derived.Deep.MidRow
import Derived.Deep.WholeRow
import Derived.Deep.RegionHeld
import Derived.LaidEql
import Derived.Stop.Asserts
import Derived.RowKitTokens
namespace Go.Proofs.Ytpejfkgbfdkdnaa
section
open Go.RowKit
theorem set_same {α : Type} {l : List α} {k : Nat} {f : α} (h : l[k]? = some f) : l.set k f = l := by
  refine List.ext_getElem? fun i => ?_
  rw [List.getElem?_set]
  by_cases he : k = i
  · subst he
    rw [if_pos rfl, if_pos (List.getElem?_eq_some_iff.1 h).1, h]
  · rw [if_neg he]
end

section
open Go.RowKit
/-- All blocks outside the interval are as they were. -/
structure Out (B T : Nat) (w w' : World) : Prop where
  os : w'.os = w.os
  tape : w'.tape = w.tape
  output : w'.output = w.output
  size : w.heap.size ≤ w'.heap.size
  block : ∀ k, k < w.heap.size → (k < B ∨ T ≤ k) → w'.heap[k]? = w.heap[k]?
theorem Out.refl (B T : Nat) (w : World) : Out B T w w := ⟨rfl, rfl, rfl, Nat.le_refl _, fun _ _ _ => rfl⟩
theorem Out.trans {B T : Nat} {a b c : World} (h : Out B T a b) (k : Out B T b c) : Out B T a c :=
  ⟨k.os.trans h.os, k.tape.trans h.tape, k.output.trans h.output, Nat.le_trans h.size k.size, fun i hi ho => (k.block i (Nat.lt_of_lt_of_le hi h.size) ho).trans (h.block i hi ho)⟩
theorem Out.wider {B T B' T' : Nat} {a b : World} (h : Out B T a b) (h1 : B' ≤ B) (h2 : T ≤ T') : Out B' T' a b :=
  ⟨h.os, h.tape, h.output, h.size, fun i hi ho => h.block i hi (by omega)⟩
theorem Below.out {a b : World} (h : Below a.heap.size a b) (B T : Nat) : Out B T a b := ⟨h.os, h.tape, h.output, h.size, fun k hk _ => h.block k hk⟩
theorem Out.gr {B T : Nat} {a b : World} {r : Option Nat} (h : a.grownBy b r) (hr : ∀ g, r = some g → B ≤ g ∧ g < T) : Out B T a b :=
  ⟨h.os, h.tape, h.output, h.size, fun k hk ho => h.block k hk (fun e => by have := hr k e.symm; omega)⟩
end

section
open Go.RowKit
theorem empty_row (W : World) (B : Nat) (e : TypeId) (s : Nat) (hB : B ≤ W.heap.size) : (W.alloc (.cells #[] e)).ownsRow B e s (.slice (some ⟨W.heap.size, 0, none⟩) 0 0) 0 [] :=
  ⟨by simp, .inr ⟨W.heap.size, 0, #[], rfl, hB, heap_alloc_new W _, Nat.le_refl _, Nat.zero_le _, by simp, by simp⟩⟩
end
end Go.Proofs.Ytpejfkgbfdkdnaa
