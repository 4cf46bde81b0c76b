/-
  A table of the laws, copied.
-/
import Derived.Test.YtnfplimhhjpbkaaGreatDoorJ04N
namespace Go.Proofs.YtnfplimhhjpbkaaGreatDoor
open Go.RowKit
theorem Tryz.infoInode : (Tryz.prog.info? 66).map (fun i => (i.zero, i.size, i.bytes)) = some (some (.agg #[.int .i64 0, .int .i64 0, .int .i64 0, .slice none 0 0, .slice none 0 0, .slice none 0 0]), 6, 96) := by kernel_rfl
/-- What a copy of a row of inodes is: the same data, in rows of the call's own behind B. -/
def Cpd (w : World) (B : Nat) (rs ts : List InoR) : Prop := ts.map InoR.D = rs.map InoR.D ∧ ∀ r ∈ ts, r.own w B
theorem gr_more {w w1 : World} {g : Nat} (h : w.grownBy w1 (some g)) (j : Nat) (v : Value) : w.grownBy (w1.setCell ⟨g, j, none⟩ v) (some g) :=
  ⟨h.os, h.tape, h.output, by rw [size_setC]; exact h.size, fun m hm hk => (heap_setCell_other w1 ⟨g, j, none⟩ m v (fun e => hk (by simp [e]))).trans (h.block m hm hk)⟩
theorem six_gr (w : World) (g k : Nat) (v0 v1 v2 v3 v4 v5 : Value) : w.grownBy ((((((w.setCell ⟨g, k, none⟩ v0).setCell ⟨g, k + 1, none⟩ v1).setCell ⟨g, k + 2, none⟩ v2).setCell ⟨g, k + 3, none⟩ v3).setCell ⟨g, k + 4, none⟩ v4).setCell ⟨g, k + 5, none⟩ v5) (some g) :=
  gr_more (gr_more (gr_more (gr_more (gr_more (gr_setC w g k v0) (k + 1) v1) (k + 2) v2) (k + 3) v3) (k + 4) v4) (k + 5) v5
theorem set_mid {α : Type} (l : List α) (x z : α) (m : Nat) (h : 0 < m) : (l ++ List.replicate m z).set l.length x = (l ++ [x]) ++ List.replicate (m - 1) z := by
  obtain ⟨m, rfl⟩ : ∃ q, m = q + 1 := ⟨m - 1, by omega⟩
  rw [List.set_append_right _ _ (Nat.le_refl _), Nat.sub_self, List.replicate_succ, List.set_cons_zero]
  simp
end Go.Proofs.YtnfplimhhjpbkaaGreatDoor
