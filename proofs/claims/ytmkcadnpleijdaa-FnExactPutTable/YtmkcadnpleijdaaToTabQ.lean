/-
  A table of the laws, copied.
-/
import Derived.Test.YtmkcadnpleijdaaPairsQ
import Derived.Test.YtmkcadnpleijdaaInodeQ
import Derived.ProofKit
import Derived.ChangeOld
import Derived.Below
namespace Go.Proofs.Ytmkcadnpleijdaa
open Go.RowKit
theorem gr_more {w w1 : World} {g : Nat} (h : w.grownBy w1 (some g)) (j : Nat) (v : Value) : w.grownBy (w1.setCell ⟨g, j, none⟩ v) (some g) :=
  ⟨h.os, h.tape, h.output, by rw [size_setC]; exact h.size, fun m hm hk => (heap_setCell_other w1 ⟨g, j, none⟩ m v (fun e => hk (by simp [e]))).trans (h.block m hm hk)⟩
theorem set_mid {α : Type} (l : List α) (x z : α) (m : Nat) (h : 0 < m) : (l ++ List.replicate m z).set l.length x = (l ++ [x]) ++ List.replicate (m - 1) z := by
  obtain ⟨m, rfl⟩ : ∃ q, m = q + 1 := ⟨m - 1, by omega⟩
  rw [List.set_append_right _ _ (Nat.le_refl _), Nat.sub_self, List.replicate_succ, List.set_cons_zero]
  simp
end Go.Proofs.Ytmkcadnpleijdaa

