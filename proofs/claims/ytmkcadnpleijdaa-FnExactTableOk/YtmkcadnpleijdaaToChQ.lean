/-
  A chip of the laws copied into one of the program's: all of it new.
-/
import Derived.Test.YtmkcadnpleijdaaElQ
namespace Go.Proofs.Ytmkcadnpleijdaa
open Go.RowKit
theorem made_row {α : Type} (E : El α) (z : α) (zv : Value) (hz : zv.cells.toList = E.en z) {w : World} {g n : Nat} {ty : TypeId} (h : w.ownsRow 0 ty E.k (.slice (some ⟨g, 0, none⟩) n n) n (madeCells zv.cells (n * E.k)).toList) : OwnE E ty w (.slice (some ⟨g, 0, none⟩) n n) n (List.replicate n z) := by
  unfold OwnE
  have hp := E.pos
  have e : (madeCells zv.cells (n * E.k)).toList = E.xv (List.replicate n z) := by
    apply List.ext_getElem?
    intro m
    have hzl : zv.cells.size = E.k := by rw [← Array.length_toList, hz, E.len]
    by_cases hm : m < n * E.k
    · have hd : m / E.k < n := Nat.div_lt_of_lt_mul (by rw [Nat.mul_comm]; exact hm)
      have h1 := E.xv_at (List.replicate n z) (m / E.k) (m % E.k) z (by rw [List.getElem?_replicate, if_pos hd]) (Nat.mod_lt _ hp)
      rw [show m / E.k * E.k + m % E.k = m by rw [Nat.mul_comm]; exact Nat.div_add_mod m E.k] at h1
      rw [h1, ← hz]
      have hlen : (madeCells zv.cells (n * E.k)).toList.length = n * E.k := by simp [madeCells]
      rw [List.getElem?_eq_getElem (by rw [hlen]; exact hm), List.getElem?_eq_getElem (by rw [Array.length_toList, hzl]; exact Nat.mod_lt _ hp)]
      simp [madeCells, hzl, Nat.mod_lt _ hp]
    · rw [List.getElem?_eq_none (by simp [madeCells]; omega), List.getElem?_eq_none (by rw [E.xv_length]; simp; omega)]
  rw [← e]
  exact h
theorem list_mid {α : Type} (us : List α) (z : α) (m k : Nat) (h : us.length = k) (hm : 0 < m) : (us ++ List.replicate m z)[k]? = some z := by
  rw [List.getElem?_append_right (by omega), h, Nat.sub_self, List.getElem?_replicate, if_pos hm]
theorem set_set_at {α : Type} (l : List α) (i : Nat) (x y : α) : (l.set i x).set i y = l.set i y := by simp
end Go.Proofs.Ytmkcadnpleijdaa

