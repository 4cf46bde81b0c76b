/-
  Contracts for the cursor of the draws: l1New, l1Byte, l1Below, l1Int, l1Bytes, l1Some.
-/
import Derived.Test.YtjpefnicemlobaaRows
import Derived.Test.YtjpefnicemlobaaBase
import Derived.Test.YtjpefnicemlobaaMark
import Derived.WalkKit
import Derived.WalkSpells
import Derived.WalkLawsBesides
import Derived.Deep.QuietTactic
import Derived.BigQuiet
import Derived.OpenShut
import Derived.Laws.BitsAllLaws
import Derived.Maps.AppendAt
import Derived.Lib.SliceRun
import Derived.Laws.BitsLemmas
namespace Go.Proofs.Ytjpefnicemlobaa
open Go.RowKit
theorem Rd.kept {w w' : World} {a : Option Addr} {zs : List Int} {g : Nat} (h : Rd w a zs) (hg : w.grownBy w' (some g)) (hne : zs ≠ [] → ∀ b off, a = some ⟨b, off, none⟩ → b ≠ g) : Rd w' a zs := by
  by_cases hz : zs = []
  · exact .inl hz
  · obtain ⟨b, off, rfl, hlt, hc⟩ := h.lt hz
    refine .inr ⟨b, off, rfl, fun i hi => ?_⟩
    have := hne hz b off rfl
    exact hg.cell (hc i hi) (by simpa using this)
theorem Rd.at {w : World} {a : Option Addr} {zs : List Int} (h : Rd w a zs) : zs ≠ [] → ∀ b off, a = some ⟨b, off, none⟩ → b < w.heap.size := by
  intro hz b off e
  obtain ⟨b', off', e', hlt, _⟩ := h.lt hz
  rw [e] at e'
  simp at e'
  omega
end Go.Proofs.Ytjpefnicemlobaa
