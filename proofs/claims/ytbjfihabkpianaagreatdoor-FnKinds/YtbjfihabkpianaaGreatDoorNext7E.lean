/-
  What the specification's l7Next answers.
-/
import Derived.Test.YtbjfihabkpianaaGreatDoorJ08E
import Derived.Deep.CutBlock
namespace Go.Proofs.YtbjfihabkpianaaGreatDoor
open Go.RowKit
/-- Six cells of a box stored anew. -/
theorem blk6 {W : World} {X : Nat} {t : TypeId} {u0 u1 u2 u3 u4 u5 : Value} (h : Blk W X t #[u0, u1, u2, u3, u4, u5]) (v0 v1 v2 v3 v4 v5 : Value) : Blk ((((((W.setCell ⟨X, 0, none⟩ v0).setCell ⟨X, 1, none⟩ v1).setCell ⟨X, 2, none⟩ v2).setCell ⟨X, 3, none⟩ v3).setCell ⟨X, 4, none⟩ v4).setCell ⟨X, 5, none⟩ v5) X t #[v0, v1, v2, v3, v4, v5] :=
  (((((h.set 0 v0).set 1 v1).set 2 v2).set 3 v3).set 4 v4).set 5 v5
theorem InoG.rds {w : World} {B T : Nat} {D : InoD} {a1 a2 a3 : Option Addr} {c1 c2 c3 : Nat} (h : InoG w B T D (.slice a1 D.data.length c1) (.slice a2 D.ents.length c2) (.slice a3 D.attrs.length c3)) : InoRd w D a1 a2 a3 := by
  obtain ⟨_, _, _, _, _, _, e1, e2, e3, r⟩ := h.form
  simp only [Value.slice.injEq, true_and] at e1 e2 e3
  rw [e1.1, e2.1, e3.1]
  exact r
end Go.Proofs.YtbjfihabkpianaaGreatDoor

