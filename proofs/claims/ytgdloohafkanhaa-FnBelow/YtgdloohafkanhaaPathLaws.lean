/-
  What follows of names and paths alone: a path and its parent, two paths below each other.
-/
import Derived.Test.YtgdloohafkanhaaPath
namespace Go.Proofs.Ytgdloohafkanhaa

theorem below_cases {a b : Str} (h : belowOf a b = true) : ∃ x y, splitOf a = some x ∧ splitOf b = some y ∧ x.length ≤ y.length ∧ y.take x.length = x := by
  unfold belowOf at h
  split at h
  · rename_i x y hx hy
    simp only [Bool.and_eq_true, decide_eq_true_eq] at h
    exact ⟨x, y, hx, hy, h.1, h.2⟩
  · simp at h
theorem below_of {a b : Str} {x y : List Str} (ha : splitOf a = some x) (hb : splitOf b = some y) (h1 : x.length ≤ y.length) (h2 : y.take x.length = x) : belowOf a b = true := by
  unfold belowOf
  rw [ha, hb]
  simp [h1, h2]
theorem below_not {a b : Str} {x y : List Str} (ha : splitOf a = some x) (hb : splitOf b = some y) (h1 : y.length < x.length) : belowOf a b = false := by
  unfold belowOf
  rw [ha, hb]
  simp only [Bool.and_eq_false_imp, decide_eq_true_eq]
  intro h; omega

theorem below_both {a b : Str} (h : belowOf a b = true) (h' : belowOf b a = true) : a = b := by
  obtain ⟨x, y, ha, hb, h1, h2⟩ := below_cases h
  obtain ⟨y', x', hb', ha', h3, h4⟩ := below_cases h'
  rw [ha, Option.some.injEq] at ha'
  rw [hb, Option.some.injEq] at hb'
  subst ha' hb'
  have e : x = y := by
    rw [← h2]
    exact List.take_of_length_le h3
  rw [← join_split ha, ← join_split hb, e]

theorem flat_take (y : List Str) (n : Nat) : ((y.take n).flatMap (fun p => 47 :: p)).length ≤ (y.flatMap (fun p => 47 :: p)).length := by
  conv => rhs; rw [← List.take_append_drop n y, List.flatMap_append, List.length_append]
  omega

theorem below_len {a b : Str} (h : belowOf a b = true) : a.length ≤ b.length := by
  obtain ⟨x, y, ha, hb, h1, h2⟩ := below_cases h
  have ga := split_good ha
  have gb := split_good hb
  rw [← join_split ha, ← join_split hb]
  have hb0 := join_good gb
  by_cases hx : x = []
  · subst hx
    show 1 ≤ _
    cases hj : joinOf y with
    | nil => exact absurd hj hb0
    | cons c r => simp
  · have hy : y ≠ [] := by
      rintro rfl
      apply hx
      rw [← h2]; simp
    rw [joinOf, if_neg hx, if_pos ga, joinOf, if_neg hy, if_pos gb]
    conv => lhs; rw [← h2]
    exact flat_take y x.length

/-- A path that is not the root's is its parent, a slash and its last name; the parent is a path. -/
theorem parent_whole {s : Str} {zs : List Str} (h : splitOf s = some zs) (hne : zs ≠ []) :
    nameOk (zs.getLastD []) = true ∧ splitOf (joinOf zs.dropLast) = some zs.dropLast ∧
    (joinOf zs.dropLast = [47] → s = 47 :: zs.getLastD []) ∧ (joinOf zs.dropLast ≠ [47] → s = joinOf zs.dropLast ++ 47 :: zs.getLastD []) := by
  have hg := split_good h
  have hsp : zs = zs.dropLast ++ [zs.getLast hne] := (List.dropLast_concat_getLast hne).symm
  have hl : zs.getLastD [] = zs.getLast hne := by rw [List.getLastD_eq_getLast?, List.getLast?_eq_some_getLast hne]; rfl
  have hgd : good zs.dropLast = true := good_prefix hg ⟨[zs.getLast hne], hsp.symm⟩
  have hj := join_split h
  rw [joinOf, if_neg hne, if_pos hg] at hj
  have hj2 : s = zs.dropLast.flatMap (fun p => 47 :: p) ++ 47 :: zs.getLast hne := by
    rw [← hj]
    conv => lhs; rw [hsp]
    simp [List.flatMap_append]
  refine ⟨?_, split_join (join_good hgd), ?_, ?_⟩
  · rw [hl]; exact good_all hg _ (List.getLast_mem hne)
  · intro e
    rw [hl]
    by_cases hd : zs.dropLast = []
    · rw [hj2, hd]; rfl
    · -- a joined path of names is longer than one sign
      rw [joinOf, if_neg hd, if_pos hgd] at e
      exfalso
      cases hz : zs.dropLast with
      | nil => exact hd hz
      | cons z rest =>
        rw [hz] at e hgd
        have hn := nameOk_pos (good_all hgd z (by simp))
        have := congrArg List.length e
        simp only [List.flatMap_cons, List.length_append, List.length_cons, List.length_nil] at this
        omega
  · intro e
    rw [hl]
    have hd : zs.dropLast ≠ [] := by
      intro hd
      apply e
      rw [hd]; rfl
    rw [joinOf, if_neg hd, if_pos hgd]
    exact hj2

theorem flat_small (zs : List Str) (h : ∀ z ∈ zs, nameOk z = true) : (zs.flatMap (fun p => 47 :: p)).length ≤ 15 * zs.length := by
  induction zs with
  | nil => simp
  | cons z zs ih =>
    have h1 := ih (fun y hy => h y (by simp [hy]))
    have h2 := nameOk_len (h z (by simp))
    simp only [List.flatMap_cons, List.length_append, List.length_cons]
    omega
theorem join_small (zs : List Str) : (joinOf zs).length ≤ 1000 := by
  by_cases h0 : zs = []
  · subst h0; decide
  · cases hg : good zs with
    | false => rw [joinOf, if_neg h0, hg]; simp
    | true =>
      rw [joinOf, if_neg h0, if_pos hg]
      have h1 := flat_small zs (good_all hg)
      have h2 := good_len hg
      omega
end Go.Proofs.Ytgdloohafkanhaa
