/-
  What the law on DropInode needs: tables whose row may be nil, compared and marked.
-/
import Derived.Test.YtnadeelnjhollaaGreatTabWV
import Derived.Test.YtnadeelnjhollaaGreatMarkTabV
import Derived.Deep.AppendSrc
import Derived.Maps.OwnSet
import Derived.Maps.OwnOps
import Derived.Lib.Slices
import Derived.Lib.Walk
import Derived.Lib.Bytealg
import Derived.Lib.IndexLaws
import Derived.Lib.BufferWrite
import Derived.Lib.UnsafeStr
import Derived.Laws.MakeOwn
import Derived.Laws.Strings3
import Derived.Deep.RegionLaw
namespace Go.Proofs.YtnadeelnjhollaaGreat
open Go.RowKit
theorem InoJ.G.rd {w : World} {j : InoJ} (h : j.G w) : j.r.rd w := by
  obtain ⟨a1, c1, a2, c2, a3, c3, e1, e2, e3, hr⟩ := InoG.form h
  simp [InoJ.v1] at e1
  simp [InoJ.v2] at e2
  simp [InoJ.v3] at e3
  unfold InoR.rd
  rw [e1.1, e2.1, e3.1]
  exact hr
end Go.Proofs.YtnadeelnjhollaaGreat
