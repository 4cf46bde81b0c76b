/-
  The paths of a tree (no program): the model, and that it comes to an end: no directory is met twice.
-/
import Derived.Test.YtnadeelnjhollaaMKU
import Derived.Test.YtnadeelnjhollaaInoOkU
import Derived.Deep.AppendSrc
import Derived.Maps.OwnSet
import Derived.Maps.OwnOps
import Derived.Lib.Slices
import Derived.Lib.Walk
import Derived.Lib.Bytealg
import Derived.Lib.IndexLaws
import Derived.Lib.BufferWrite
import Derived.Lib.UnsafeStr
import Derived.Laws.MakeOwn
import Derived.Laws.Strings3
import Derived.Deep.RegionLaw
import Derived.RangeFuncBox
import Derived.RangeFuncNested
import Derived.RangeFuncBound
import Derived.RangeFuncCalls
import Derived.RangeFuncLeaves
import Derived.Shelf.Abstract
import Derived.Shelf.RegionOpen
import Derived.OwnWalkIn
import Derived.TacticsInMore
import Derived.LoopNIn
import Derived.LoopIn
import Derived.Deep.CutBlock
namespace Go.Proofs.Ytnadeelnjhollaa
open Go.RowKit
theorem ok_parts {D : InoD} (h : inoOk D = true) : 0 ≤ D.links ∧ (D.links = 0 ↔ D.ino = 1) ∧ entsOk D.ents = true ∧ kindR D = true ∧ D.data.length ≤ 100 ∧ attsOk D.attrs = true := by
  unfold inoOk at h
  simp only [Bool.and_eq_true, decide_eq_true_eq] at h
  obtain ⟨⟨⟨⟨⟨⟨_, h1⟩, h2⟩, h3⟩, h4⟩, h5⟩, h6⟩ := h
  refine ⟨h1.1, ?_, h4, h6, h3, h5⟩
  have := beq_iff_eq.1 h2
  constructor
  · intro e
    rw [e] at this
    simpa using this.symm
  · intro e
    rw [e] at this
    simpa using this
/-- The paths below a number, to a depth. -/
def sub (p : ByteArray) (e : ByteArray × Int) : ByteArray := p ++ (⟨#[47]⟩ : ByteArray) ++ e.1
end Go.Proofs.Ytnadeelnjhollaa
