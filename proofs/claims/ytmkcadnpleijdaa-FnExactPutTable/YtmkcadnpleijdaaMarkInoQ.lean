/-
  The laws' marks in an inode.
-/
import Derived.Test.YtmkcadnpleijdaaPutsQ
import Derived.ProofKit
import Derived.ChangeOld
import Derived.Below
import Derived.Deep.DeepCutAuto
namespace Go.Proofs.Ytmkcadnpleijdaa
open Go.RowKit
theorem row_at {e : TypeId} {B s n : Nat} {w : World} {v : Value} {xs : List Value} (h : w.ownsRow B e s v n xs) {g : Nat} (hg : v.ownBlock = some g) : B ≤ g ∧ ∃ cur, w.heap[g]? = some (.cells cur e (0, 0)) := by
  rcases h.2 with ⟨rfl, _⟩ | ⟨g', cap, cur, rfl, hb, hgg, _⟩
  · simp [Value.ownBlock] at hg
  · simp [Value.ownBlock] at hg
    subst hg
    exact ⟨hb, cur, hgg⟩
/-- A row is as it was where only another one grew. -/
theorem row_kept {e : TypeId} {B s n : Nat} {w w' : World} {v : Value} {xs : List Value} (h : w.ownsRow B e s v n xs) {r : Option Nat} (hg : w.grownBy w' r) (hne : ∀ g, v.ownBlock = some g → r ≠ some g) : w'.ownsRow B e s v n xs := by
  refine ⟨h.1, ?_⟩
  rcases h.2 with h' | ⟨g', cap, cur, rfl, hb, hgg, rest⟩
  · exact .inl h'
  · exact .inr ⟨g', cap, cur, rfl, hb, (hg.block g' (Array.getElem?_eq_some_iff.1 hgg).1 (fun e => hne g' rfl e.symm)).trans hgg, rest⟩
/-- All blocks but the three rows are as they were. -/
structure But (w w' : World) (r1 r2 r3 : Option Nat) : Prop where
  os : w'.os = w.os
  tape : w'.tape = w.tape
  output : w'.output = w.output
  size : w.heap.size ≤ w'.heap.size
  block : ∀ k, k < w.heap.size → some k ≠ r1 → some k ≠ r2 → some k ≠ r3 → w'.heap[k]? = w.heap[k]?
theorem OwnV.keep {B : Nat} {w w' : World} {v : Value} {n : Nat} {zs : List Int} (h : OwnV B w v n zs) (hb : Below w.heap.size w w') : OwnV B w' v n zs := by
  refine ⟨h.1, ?_⟩
  rcases h.2 with h' | ⟨g', cap', cur, h', hb', hgg, rest⟩
  · exact .inl h'
  · exact .inr ⟨g', cap', cur, h', hb', (hb.block g' (Array.getElem?_eq_some_iff.1 hgg).1).trans hgg, rest⟩
end Go.Proofs.Ytmkcadnpleijdaa

