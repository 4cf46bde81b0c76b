/-
  Joined: CrcT, RecV.
-/
import Derived.Test.YtmkcadnpleijdaaJ05U
import Derived.Test.YtmkcadnpleijdaaJ24U
import Derived.Deep.RegionHeld3
import Derived.Lib.ConvBytes
import Derived.Deep.AppendLies
import Derived.Laws.StructEq
import Derived.Laws.BytesString
import Derived.Deep.CutBlock
import Derived.Deep.RegionLaw
import Derived.Deep.OwnRows
import Derived.ArgAppend
namespace Go.Proofs.Ytmkcadnpleijdaa
section
open Go.RowKit
theorem cells_getD (l : List Int) (j : Nat) (h : j < l.length) : (l.map (Value.int .u8))[j]? = some (.int .u8 (l.getD j 0)) := by simp [h]
end

section
open Go.RowKit
theorem own_cut {w : World} {g cap n k : Nat} {zs : List Int} (h : Own w g n cap zs) (hk : k ≤ n) : Own w g k cap (zs.take k) := by
  have hl := h.len
  refine ⟨by simp; omega, ?_⟩
  rcases h.2 with ⟨h1, _⟩ | ⟨g', c', cur, h1, h2, h3, h4, h5, h6, h7⟩
  · simp at h1
  · simp only [Value.slice.injEq] at h1
    obtain ⟨h1a, h1b, h1c⟩ := h1
    refine .inr ⟨g', c', cur, by rw [h1a, h1c], h2, h3, by omega, h5, h6, ?_⟩
    rw [List.map_take, ← h7, List.take_take]
    congr 1
    omega
end
end Go.Proofs.Ytmkcadnpleijdaa
