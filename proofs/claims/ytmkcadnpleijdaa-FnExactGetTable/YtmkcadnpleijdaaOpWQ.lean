/-
  An operation marked and held.
-/
import Derived.Test.YtmkcadnpleijdaaOpPutQ
import Derived.Test.YtmkcadnpleijdaaMarkGIQ
namespace Go.Proofs.Ytmkcadnpleijdaa
open Go.RowKit
theorem RowB.keep {w w' : World} {v : Value} {n : Nat} {zs : List Int} (h : RowB w v n zs) (hb : Below w.heap.size w w') : RowB w' v n zs := h.block fun g hg => hb.block g (h.at_ hg).1
theorem RowB.gr {w w' : World} {v : Value} {n : Nat} {zs : List Int} {r : Option Nat} (h : RowB w v n zs) (hg : w.grownBy w' r) (hne : ∀ g, v.ownBlock = some g → some g ≠ r) : RowB w' v n zs := h.block fun g hv => hg.block g (h.at_ hv).1 (hne g hv)
theorem RowB.rd {w : World} {a : Option Addr} {c n : Nat} {zs : List Int} (h : RowB w (.slice a n c) n zs) : Rd w a zs := by
  obtain ⟨a', c', e, hr⟩ := h.form
  simp only [Value.slice.injEq, true_and] at e
  obtain ⟨rfl, _⟩ := e
  exact hr
theorem Own.rowB {w : World} {g n c : Nat} {zs : List Int} (h : Own w g n c zs) : RowB w (.slice (some ⟨g, 0, none⟩) n c) n zs := OwnV.rowB (B := 0) h
/-- What was changed lies at or behind B. -/
theorem below_gro {B : Nat} {w0 w w' : World} {r : Option Nat} (h : Below B w0 w) (hB : B ≤ w0.heap.size) (hg : w.grownBy w' r) (hr : ∀ g, r = some g → B ≤ g) : Below B w0 w' := h.grown hg (Nat.le_trans hB h.size) hr
/-- The bytes that are put: none, if there are none. -/
def opPut (D : OpD) : List Int := if opOk D = true then opEnc D else []
theorem opPut_len (D : OpD) (h : OpSmall D) : (opPut D).length ≤ 1048600 := by
  unfold opPut
  split
  · exact opEnc_len D h
  · simp
end Go.Proofs.Ytmkcadnpleijdaa

