/-
  Blocks that are as they were, but for three rows.
-/
import Derived.Test.YtbidiicccfkanaaSpecPut
namespace Go.Proofs.Ytbidiicccfkanaa
open Go.RowKit

theorem But.below {w0 w w' : World} {B : Nat} {r1 r2 r3 : Option Nat} (h : Below B w0 w) (k : But w w' r1 r2 r3) (hB : B ≤ w.heap.size) (h1 : ∀ g, r1 = some g → B ≤ g) (h2 : ∀ g, r2 = some g → B ≤ g) (h3 : ∀ g, r3 = some g → B ≤ g) : Below B w0 w' := by
  refine ⟨k.os.trans h.os, k.tape.trans h.tape, k.output.trans h.output, Nat.le_trans h.size k.size, fun i hi => ?_⟩
  rw [k.block i (by omega) (fun e => by have := h1 i e.symm; omega) (fun e => by have := h2 i e.symm; omega) (fun e => by have := h3 i e.symm; omega)]
  exact h.block i hi
theorem Own.but {w w' : World} {g n c : Nat} {zs : List Int} {r1 r2 r3 : Option Nat} (h : Own w g n c zs) (k : But w w' r1 r2 r3) (h1 : some g ≠ r1) (h2 : some g ≠ r2) (h3 : some g ≠ r3) : Own w' g n c zs := by
  refine ⟨h.1, ?_⟩
  rcases h.2 with ⟨h', _⟩ | ⟨g', cap', cur, h', hb', hgg, rest⟩
  · simp at h'
  · refine .inr ⟨g', cap', cur, h', hb', ?_, rest⟩
    simp only [Value.slice.injEq, Option.some.injEq, Addr.mk.injEq, and_true, true_and] at h'
    obtain ⟨rfl, rfl⟩ := h'
    rw [k.block g (Array.getElem?_eq_some_iff.1 hgg).1 h1 h2 h3]; exact hgg
theorem InoOwn.toQ {w : World} {D : InoD} {g1 c1 g2 c2 g3 c3 : Nat} (h : InoOwn w D g1 c1 g2 c2 g3 c3) : InoQ w D (.slice (some ⟨g1, 0, none⟩) D.data.length c1) (.slice (some ⟨g2, 0, none⟩) D.ents.length c2) (.slice (some ⟨g3, 0, none⟩) D.attrs.length c3) :=
  ⟨h.data, h.byt, h.ents, h.attrs⟩
end Go.Proofs.Ytbidiicccfkanaa
