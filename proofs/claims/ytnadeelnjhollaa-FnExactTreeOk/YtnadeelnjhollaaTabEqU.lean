/-
  Both TabOk functions answer one.
-/
import Derived.Test.YtnadeelnjhollaaTabOkIU
import Derived.Test.YtnadeelnjhollaaTabOkSU
namespace Go.Proofs.Ytnadeelnjhollaa
open Go.RowKit
theorem inoOk_pos {D : InoD} (h : inoOk D = true) : 1 ≤ D.ino := by
  rw [inoOk_parts] at h
  simp only [Bool.and_eq_true, decide_eq_true_eq] at h
  exact h.1.1.1.1.1
theorem asc_ge {xs : List Int} (h : ascN xs = true) (hp : ∀ x ∈ xs, 1 ≤ x) (k : Nat) (hk : k < xs.length) : (k : Int) + 1 ≤ xs.getD k 0 := by
  unfold ascN at h
  rw [List.all_eq_true] at h
  induction k with
  | zero =>
    have : xs.getD 0 0 ∈ xs := by
      rw [List.getD_eq_getElem?_getD, List.getElem?_eq_getElem hk]
      exact List.getElem_mem hk
    have := hp _ this
    omega
  | succ k ih =>
    have h1 := ih (by omega)
    have h2 := h (k + 1) (List.mem_range.2 hk)
    simp only [Nat.add_sub_cancel, Nat.add_eq_zero_iff, Nat.one_ne_zero, and_false, decide_false, Bool.false_or, decide_eq_true_eq] at h2
    omega
theorem steps_all (nx : Int) (rs : List InoR) : (List.range rs.length).all (stepT nx rs) = (rs.all (goodR nx) && ascN (inos rs)) := by
  rw [Bool.eq_iff_iff]
  simp only [List.all_eq_true, Bool.and_eq_true, List.mem_range]
  have hat : ∀ i, i < rs.length → rs.getD i inoZ ∈ rs ∧ (inos rs).getD i 0 = (rs.getD i inoZ).D.ino := fun i hi => by
    rw [List.getD_eq_getElem?_getD, List.getElem?_eq_getElem hi]
    refine ⟨List.getElem_mem hi, ?_⟩
    exact inos_at (List.getElem?_eq_getElem hi)
  constructor
  · intro h
    refine ⟨fun r hr => ?_, ?_⟩
    · obtain ⟨i, hi, rfl⟩ := List.mem_iff_getElem.1 hr
      have h1 := h i hi
      unfold stepT at h1
      rw [show rs.getD i inoZ = rs[i] by simp [List.getD_eq_getElem?_getD, hi]] at h1
      simp only [Bool.and_eq_true] at h1
      unfold goodR
      rw [h1.1, h1.2.1]
      rfl
    · unfold ascN
      rw [List.all_eq_true]
      intro i hi
      rw [List.mem_range, inos_length] at hi
      have h1 := h i hi
      unfold stepT at h1
      simp only [Bool.and_eq_true] at h1
      rw [(hat i hi).2, (hat (i - 1) (by omega)).2]
      exact h1.2.2
  · rintro ⟨hg, ha⟩ i hi
    have h1 := hg _ (hat i hi).1
    unfold goodR at h1
    simp only [Bool.and_eq_true] at h1
    unfold ascN at ha
    rw [List.all_eq_true] at ha
    have h2 := ha i (by rw [List.mem_range, inos_length]; exact hi)
    rw [(hat i hi).2, (hat (i - 1) (by omega)).2] at h2
    unfold stepT
    rw [h1.1, h1.2, h2]
    rfl
theorem tab_same (nx : Int) (rs : List InoR) : tabI nx rs = tabS nx rs := by
  unfold tabI tabS
  rw [steps_all]
  cases hg : rs.all (goodR nx) with
  | false => simp
  | true =>
    cases ha : ascN (inos rs) with
    | false => simp
    | true =>
      have hpos : ∀ x ∈ inos rs, 1 ≤ x := fun x hx => by
        obtain ⟨r, hr, rfl⟩ := List.mem_map.1 hx
        have := List.all_eq_true.1 hg r hr
        unfold goodR at this
        simp only [Bool.and_eq_true] at this
        exact inoOk_pos this.1
      cases hf : firstAt (inos rs) 1 with
      | none =>
        have hno : ¬ (1 ≤ rs.length ∧ (rs.getD 0 inoZ).D.ino = 1) := by
          rintro ⟨h1, h2⟩
          unfold firstAt at hf
          rw [List.findIdx?_eq_none_iff] at hf
          have hm : (rs.getD 0 inoZ).D.ino ∈ inos rs := by
            rw [List.getD_eq_getElem?_getD, List.getElem?_eq_getElem (show 0 < rs.length by omega)]
            exact List.mem_map_of_mem (List.getElem_mem _)
          have := hf _ hm
          rw [h2] at this
          simp at this
        simp only [Bool.false_and, Bool.and_false, Bool.true_and]
        symm
        by_cases h1 : 1 ≤ rs.length
        · have h2 : ¬ (rs.getD 0 inoZ).D.ino = 1 := fun h => hno ⟨h1, h⟩
          rw [decide_eq_false h2]
          simp
        · rw [decide_eq_false h1]
          simp
      | some p =>
        have hp := firstAt_lt hf
        have hp0 : p = 0 := by
          have h1 := asc_ge ha hpos p (by rw [inos_length]; exact hp)
          unfold firstAt at hf
          obtain ⟨h2, h3, _⟩ := List.findIdx?_eq_some_iff_getElem.1 hf
          simp at h3
          rw [List.getD_eq_getElem?_getD, List.getElem?_eq_getElem h2, Option.getD_some, h3] at h1
          omega
        subst hp0
        have hone : (rs.getD 0 inoZ).D.ino = 1 := by
          unfold firstAt at hf
          obtain ⟨h2, h3, _⟩ := List.findIdx?_eq_some_iff_getElem.1 hf
          simp only [beq_iff_eq] at h3
          rw [← h3]
          simp [inos, List.getD_eq_getElem?_getD, hp]
        rw [decide_eq_true (show 1 ≤ rs.length by omega), decide_eq_true hone]
        simp
        cases decide (rs.length ≤ 30) <;> cases decide (2 ≤ nx) <;> cases decide (nx ≤ 1000) <;> simp
end Go.Proofs.Ytnadeelnjhollaa
