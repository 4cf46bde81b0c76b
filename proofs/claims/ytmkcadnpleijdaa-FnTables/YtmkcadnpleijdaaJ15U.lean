/-
  Joined: MarkGI, OpW.
-/
import Derived.Test.YtmkcadnpleijdaaJ06U
import Derived.Laws.StructEq
import Derived.Laws.BytesString
namespace Go.Proofs.Ytmkcadnpleijdaa
section
open Go.RowKit
/-- All blocks outside the interval are as they were. -/
structure Out (B T : Nat) (w w' : World) : Prop where
  os : w'.os = w.os
  tape : w'.tape = w.tape
  output : w'.output = w.output
  size : w.heap.size ≤ w'.heap.size
  block : ∀ k, k < w.heap.size → (k < B ∨ T ≤ k) → w'.heap[k]? = w.heap[k]?
theorem Out.refl (B T : Nat) (w : World) : Out B T w w := ⟨rfl, rfl, rfl, Nat.le_refl _, fun _ _ _ => rfl⟩
theorem Out.trans {B T : Nat} {a b c : World} (h : Out B T a b) (k : Out B T b c) : Out B T a c :=
  ⟨k.os.trans h.os, k.tape.trans h.tape, k.output.trans h.output, Nat.le_trans h.size k.size, fun i hi ho => (k.block i (Nat.lt_of_lt_of_le hi h.size) ho).trans (h.block i hi ho)⟩
theorem Below.out {a b : World} (h : Below a.heap.size a b) (B T : Nat) : Out B T a b := ⟨h.os, h.tape, h.output, h.size, fun k hk _ => h.block k hk⟩
theorem Out.gr {B T : Nat} {a b : World} {r : Option Nat} (h : a.grownBy b r) (hr : ∀ g, r = some g → B ≤ g ∧ g < T) : Out B T a b :=
  ⟨h.os, h.tape, h.output, h.size, fun k hk ho => h.block k hk (fun e => by have := hr k e.symm; omega)⟩
end

section
open Go.RowKit
theorem RowB.keep {w w' : World} {v : Value} {n : Nat} {zs : List Int} (h : RowB w v n zs) (hb : Below w.heap.size w w') : RowB w' v n zs := h.block fun g hg => hb.block g (h.at_ hg).1
theorem RowB.gr {w w' : World} {v : Value} {n : Nat} {zs : List Int} {r : Option Nat} (h : RowB w v n zs) (hg : w.grownBy w' r) (hne : ∀ g, v.ownBlock = some g → some g ≠ r) : RowB w' v n zs := h.block fun g hv => hg.block g (h.at_ hv).1 (hne g hv)
theorem RowB.rd {w : World} {a : Option Addr} {c n : Nat} {zs : List Int} (h : RowB w (.slice a n c) n zs) : Rd w a zs := by
  obtain ⟨a', c', e, hr⟩ := h.form
  simp only [Value.slice.injEq, true_and] at e
  obtain ⟨rfl, _⟩ := e
  exact hr
theorem Own.rowB {w : World} {g n c : Nat} {zs : List Int} (h : Own w g n c zs) : RowB w (.slice (some ⟨g, 0, none⟩) n c) n zs := OwnV.rowB (B := 0) h
end
end Go.Proofs.Ytmkcadnpleijdaa
