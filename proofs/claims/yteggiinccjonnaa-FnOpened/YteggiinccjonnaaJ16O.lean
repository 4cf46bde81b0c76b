/-
  Joined: DvI, DvE, DvP.
-/
import Derived.Test.YteggiinccjonnaaJ15O
namespace Go.Proofs.Yteggiinccjonnaa
section
open Go.RowKit
/-- One cell of its box was stored. -/
theorem sv_one (w : World) (X i : Nat) (v : Value) : Sv [X] w (w.setCell ⟨X, i, none⟩ v) := Sv.gr (gr_setC w X i v) (fun g hg => by simp at hg; simp [hg])
end

section
open Go.RowKit
def pgU : PgR := ⟨true, none, 0, []⟩
def pgsT (j : Nat) : List PgR := (List.range 8).map fun i => if i < j then pgU else pgZ
theorem pgsT_len (j : Nat) : (pgsT j).length = 8 := by simp [pgsT]
theorem pgsT_at {j i : Nat} (h : i < 8) : (pgsT j)[i]? = some (if i < j then pgU else pgZ) := by simp [pgsT, h]
theorem pgsT_succ {j : Nat} (_h : j < 8) : (pgsT j).set j pgU = pgsT (j + 1) := by
  refine List.ext_getElem? fun i => ?_
  rw [List.getElem?_set]
  by_cases hi : i < 8
  · rw [pgsT_at hi, pgsT_at hi, pgsT_len]
    by_cases e : j = i
    · subst e; simp [hi]
    · rw [if_neg e]
      by_cases h2 : i < j
      · rw [if_pos h2, if_pos (by omega)]
      · rw [if_neg h2, if_neg (by omega)]
  · have h1 : (pgsT (j + 1))[i]? = none := List.getElem?_eq_none (by rw [pgsT_len]; omega)
    have h2 : (pgsT j)[i]? = none := List.getElem?_eq_none (by rw [pgsT_len]; omega)
    rw [h1, h2, if_neg (by omega)]
end

section
open Go.RowKit
/-- What DevOk asks. -/
noncomputable def devB (ds : List BkD) (ops : Int) (fs : List FtD) : Bool := chipOkB ds && (decide (0 ≤ ops) && decide (ops ≤ 100000)) && faultsB fs
end
end Go.Proofs.Yteggiinccjonnaa
