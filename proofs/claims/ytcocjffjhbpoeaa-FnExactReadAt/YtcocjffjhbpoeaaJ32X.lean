/-
  Joined: DvC, AscT.
-/
import Derived.Test.YtcocjffjhbpoeaaJ11X
import Derived.Deep.AppendSrc
import Derived.Deep.RegionHeld
import Derived.Deep.RegionLaw
import Derived.Maps.OwnSet
import Derived.Maps.OwnOps
namespace Go.Proofs.Ytcocjffjhbpoeaa
section
open Go.RowKit
theorem RdE.news {α : Type} {E : El α} {rd : α → Prop} {W : World} {a : Option Addr} {rs : List α} (h : RdE E rd W a rs) : rs = [] ∨ ∃ ad, a = some ad ∧ ∀ j u, (E.xv rs)[j]? = some u → W.cell? (ad.add j) = some u := by
  rcases h with h | ⟨b, off, rfl, hc⟩
  · exact .inl h
  · refine .inr ⟨_, rfl, fun j u hj => ?_⟩
    have hp := E.pos
    have hl : j < rs.length * E.k := by
      have := (List.getElem?_eq_some_iff.1 hj).1
      rw [E.xv_length] at this
      exact this
    have hi : j / E.k < rs.length := (Nat.div_lt_iff_lt_mul hp).2 hl
    have hr : rs[j / E.k]? = some rs[j / E.k] := List.getElem?_eq_getElem hi
    have hm : j % E.k < E.k := Nat.mod_lt _ hp
    have hjj : j / E.k * E.k + j % E.k = j := by rw [Nat.mul_comm]; exact Nat.div_add_mod j E.k
    have h1 := (hc _ _ hr).1 _ hm
    rw [Nat.add_assoc, hjj] at h1
    have h2 := E.xv_at rs _ _ _ hr hm
    rw [hjj] at h2
    rw [show (⟨b, off, none⟩ : Addr).add j = ⟨b, off + j, none⟩ by simp [Addr.add], h1, ← h2]
    exact hj
end

section
open Go.RowKit
/-- All ascend from the second one on. -/
def ascN (xs : List Int) : Bool := (List.range xs.length).all fun i => decide (i = 0) || decide (xs.getD (i - 1) 0 < xs.getD i 0)
end
end Go.Proofs.Ytcocjffjhbpoeaa
