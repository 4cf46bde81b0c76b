/-
  What the paths of the document are, over the bytes of a text: names, what stands between the slashes, what a path is split into and joined of. Nothing of the program is named here.
-/
namespace Go.Proofs.Ytnllhpeddoaehaa

abbrev Str := List UInt8

/-- A sign that a name may have. -/
def sign (c : UInt8) : Bool := (decide (97 ≤ c.toNat) && decide (c.toNat ≤ 122)) || (decide (48 ≤ c.toNat) && decide (c.toNat ≤ 57)) || decide (c.toNat = 95) || decide (c.toNat = 45) || decide (c.toNat = 46)

def nameOk (l : Str) : Bool := decide (1 ≤ l.length) && decide (l.length ≤ 14) && decide (l ≠ [46]) && decide (l ≠ [46, 46]) && l.all sign

theorem sign_slash : sign 47 = false := by decide
theorem nameOk_slash {l : Str} (h : nameOk l = true) : 47 ∉ l := by
  intro hm
  unfold nameOk at h
  simp only [Bool.and_eq_true, List.all_eq_true] at h
  have := h.2 _ hm
  rw [sign_slash] at this
  simp at this
theorem nameOk_ne {l : Str} (h : nameOk l = true) : l ≠ [] := by rintro rfl; simp [nameOk] at h
theorem nameOk_len {l : Str} (h : nameOk l = true) : l.length ≤ 14 := by
  unfold nameOk at h
  simp only [Bool.and_eq_true, decide_eq_true_eq] at h
  exact h.1.1.1.2
theorem nameOk_pos {l : Str} (h : nameOk l = true) : 1 ≤ l.length := by
  unfold nameOk at h
  simp only [Bool.and_eq_true, decide_eq_true_eq] at h
  exact h.1.1.1.1

/-- What stands between the slashes. -/
def pieces : Str → List Str
  | [] => [[]]
  | c :: r => if c = 47 then [] :: pieces r else match pieces r with
    | [] => [[c]]
    | p :: ps => (c :: p) :: ps

theorem pieces_nil : pieces [] = [[]] := rfl
theorem pieces_slash (r : Str) : pieces (47 :: r) = [] :: pieces r := by simp [pieces]
theorem pieces_ne (l : Str) : pieces l ≠ [] := by
  cases l with
  | nil => simp [pieces]
  | cons c r =>
    unfold pieces
    split
    · simp
    · split <;> simp
theorem pieces_hit (b a : Str) (h : 47 ∉ b) : pieces (b ++ 47 :: a) = b :: pieces a := by
  induction b with
  | nil => simp [pieces]
  | cons c b ih =>
    simp only [List.mem_cons, not_or] at h
    have hc : ¬ c = 47 := fun e => h.1 e.symm
    simp only [List.cons_append, pieces, if_neg hc, ih h.2]
theorem pieces_miss (b : Str) (h : 47 ∉ b) : pieces b = [b] := by
  induction b with
  | nil => simp [pieces]
  | cons c b ih =>
    simp only [List.mem_cons, not_or] at h
    have hc : ¬ c = 47 := fun e => h.1 e.symm
    simp only [pieces, if_neg hc, ih h.2]
theorem pieces_join (r : Str) : (pieces r).flatMap (fun p => 47 :: p) = 47 :: r := by
  induction r with
  | nil => simp [pieces]
  | cons c r ih =>
    by_cases hc : c = 47
    · subst hc; rw [pieces_slash, List.flatMap_cons, ih]; rfl
    · simp only [pieces, if_neg hc]
      cases hp : pieces r with
      | nil => exact absurd hp (pieces_ne r)
      | cons p ps =>
        rw [hp] at ih
        simp only [List.flatMap_cons, List.cons_append, List.cons.injEq, true_and] at ih ⊢
        exact ih
theorem pieces_of (z : Str) (zs : List Str) (hz : 47 ∉ z) (h : ∀ x ∈ zs, 47 ∉ x) : pieces (z ++ zs.flatMap (fun p => 47 :: p)) = z :: zs := by
  induction zs generalizing z with
  | nil => simp [pieces_miss z hz]
  | cons y ys ih =>
    simp only [List.flatMap_cons, List.cons_append]
    rw [pieces_hit z _ hz, ih y (h y (by simp)) (fun x hx => h x (by simp [hx]))]

def good (ps : List Str) : Bool := decide (ps.length ≤ 30) && ps.all nameOk

/-- What a path is split into. -/
def splitOf : Str → Option (List Str)
  | [] => none
  | c :: r => if c = 47 then (if r = [] then some [] else if good (pieces r) then some (pieces r) else none) else none

/-- What names are joined to; nothing where they are no path's. -/
def joinOf (zs : List Str) : Str := if zs = [] then [47] else if good zs then zs.flatMap (fun p => 47 :: p) else []

theorem splitOf_cons (c : UInt8) (r : Str) : splitOf (c :: r) = if c = 47 then (if r = [] then some [] else if good (pieces r) then some (pieces r) else none) else none := rfl
theorem split_cases {s : Str} {zs : List Str} (h : splitOf s = some zs) : (s = [47] ∧ zs = []) ∨ ∃ r, s = 47 :: r ∧ r ≠ [] ∧ good (pieces r) = true ∧ zs = pieces r := by
  cases s with
  | nil => simp [splitOf] at h
  | cons c r =>
    rw [splitOf_cons] at h
    by_cases hc : c = 47
    · subst hc
      rw [if_pos rfl] at h
      by_cases hr : r = []
      · subst hr; rw [if_pos rfl] at h; simp only [Option.some.injEq] at h; exact .inl ⟨rfl, h.symm⟩
      · rw [if_neg hr] at h
        by_cases hg : good (pieces r) = true
        · rw [if_pos hg] at h; simp only [Option.some.injEq] at h; exact .inr ⟨r, rfl, hr, hg, h.symm⟩
        · rw [if_neg hg] at h; simp at h
    · rw [if_neg hc] at h; simp at h
theorem split_good {s : Str} {zs : List Str} (h : splitOf s = some zs) : good zs = true := by
  rcases split_cases h with ⟨rfl, rfl⟩ | ⟨r, rfl, _, hg, rfl⟩
  · rfl
  · exact hg
theorem good_len {zs : List Str} (h : good zs = true) : zs.length ≤ 30 := by unfold good at h; simp only [Bool.and_eq_true, decide_eq_true_eq] at h; exact h.1
theorem good_all {zs : List Str} (h : good zs = true) : ∀ z ∈ zs, nameOk z = true := by unfold good at h; simp only [Bool.and_eq_true, List.all_eq_true] at h; exact h.2
theorem good_of {zs : List Str} (h : zs.length ≤ 30) (h2 : ∀ z ∈ zs, nameOk z = true) : good zs = true := by
  unfold good; simp only [Bool.and_eq_true, decide_eq_true_eq, List.all_eq_true]; exact ⟨h, h2⟩
theorem good_prefix {xs zs : List Str} (h : good zs = true) (hp : xs <+: zs) : good xs = true := by
  obtain ⟨t, rfl⟩ := hp
  refine good_of ?_ (fun z hz => good_all h z (by simp [hz]))
  have := good_len h
  simp at this
  omega

theorem join_split {s : Str} {zs : List Str} (h : splitOf s = some zs) : joinOf zs = s := by
  rcases split_cases h with ⟨rfl, rfl⟩ | ⟨r, rfl, _, hg, rfl⟩
  · rfl
  · rw [joinOf, if_neg (pieces_ne r), if_pos hg, pieces_join]
theorem split_join {zs : List Str} (h : joinOf zs ≠ []) : splitOf (joinOf zs) = some zs := by
  cases zs with
  | nil => decide
  | cons z zs =>
    have hg : good (z :: zs) = true := by
      cases hg : good (z :: zs) with
      | true => rfl
      | false => exact absurd (by simp [joinOf, hg]) h
    have ha := good_all hg
    have hp := pieces_of z zs (nameOk_slash (ha z (by simp))) (fun x hx => nameOk_slash (ha x (by simp [hx])))
    rw [joinOf, if_neg (by simp), if_pos hg]
    simp only [List.flatMap_cons, List.cons_append]
    have hne : z ++ zs.flatMap (fun p => 47 :: p) ≠ [] := by
      have := nameOk_ne (ha z (by simp))
      simp [this]
    rw [splitOf_cons, if_pos rfl, if_neg hne, hp, if_pos hg]
theorem join_good {zs : List Str} (h : good zs = true) : joinOf zs ≠ [] := by
  cases zs with
  | nil => decide
  | cons z zs => rw [joinOf, if_neg (by simp), if_pos h]; simp

/-- The specification's loop: so many rounds are left, the next index, where the name began, the names so far. -/
def spGo (s : Str) : Nat → Nat → Nat → List Str → Option (List Str)
  | 0, _, _, out => some out
  | f + 1, i, b, out => if i < s.length ∧ s.getD i 0 ≠ 47 then spGo s f (i + 1) b out else
      if i = 0 then spGo s f (i + 1) (i + 1) out else
      if nameOk ((s.take i).drop b) = false ∨ out.length = 30 then none else spGo s f (i + 1) (i + 1) (out ++ [(s.take i).drop b])

theorem spGo_none_or (ps out : List Str) (p : Str) (h : nameOk p = false ∨ out.length = 30) : good (out ++ p :: ps) = false := by
  rw [Bool.eq_false_iff]
  intro hg
  rcases h with h | h
  · have := good_all hg p (by simp)
    rw [h] at this; simp at this
  · have := good_len hg
    simp at this
    omega

theorem drop_piece (s : Str) (i b : Nat) (hb : b ≤ i) (hi : i < s.length) (hs : s.getD i 0 = 47) : s.drop b = (s.take i).drop b ++ 47 :: s.drop (i + 1) := by
  have e1 : s = s.take i ++ 47 :: s.drop (i + 1) := by
    have h1 := List.take_append_drop i s
    rw [List.drop_eq_getElem_cons hi] at h1
    have h2 : s[i] = 47 := by simpa [hi] using hs
    rw [h2] at h1
    exact h1.symm
  have hl : (s.take i).length = i := by simp; omega
  generalize hx : s.take i = x at *
  generalize hy : s.drop (i + 1) = y at *
  rw [e1, List.drop_append_of_le_length (by omega)]

theorem spGo_eq (s : Str) : ∀ (f i b : Nat) (out : List Str), f = s.length + 1 - i → 1 ≤ i → i ≤ s.length → b ≤ i → 47 ∉ (s.take i).drop b → (∀ z ∈ out, nameOk z = true) → out.length ≤ 30 →
    spGo s f i b out = if good (out ++ pieces (s.drop b)) then some (out ++ pieces (s.drop b)) else none := by
  intro f
  induction f with
  | zero => intro i b out hf h1 h2; omega
  | succ f ih =>
    intro i b out hf h1 h2 h3 h4 h5 h6
    unfold spGo
    by_cases hi : i < s.length
    · by_cases hs : s.getD i 0 = 47
      · rw [if_neg (by intro h; exact h.2 hs), if_neg (by omega)]
        have hd := drop_piece s i b h3 hi hs
        have hp := pieces_hit _ (s.drop (i + 1)) h4
        rw [← hd] at hp
        rw [hp]
        split
        · rename_i hbad
          rw [spGo_none_or _ _ _ hbad]
          rfl
        · rename_i hok
          have hn : nameOk ((s.take i).drop b) = true := by
            cases h : nameOk ((s.take i).drop b) with
            | true => rfl
            | false => exact absurd (.inl h) hok
          have hl : out.length ≠ 30 := fun h => hok (.inr h)
          by_cases hi2 : i + 1 ≤ s.length
          · rw [ih (i + 1) (i + 1) (out ++ [(s.take i).drop b]) (by omega) (by omega) hi2 (Nat.le_refl _) (by simp) (by
              intro z hz
              simp only [List.mem_append, List.mem_cons, List.not_mem_nil, or_false] at hz
              rcases hz with hz | rfl
              · exact h5 z hz
              · exact hn) (by simp; omega)]
            rw [List.append_assoc]; rfl
          · omega
      · rw [if_pos ⟨hi, hs⟩, ih (i + 1) b out (by omega) (by omega) hi (by omega) ?_ h5 h6]
        have e : (s.take (i + 1)).drop b = (s.take i).drop b ++ [s.getD i 0] := by
          rw [List.take_succ_eq_append_getElem hi, List.drop_append_of_le_length (by simp; omega)]
          simp [hi]
        rw [e]
        simp only [List.mem_append, List.mem_cons, List.not_mem_nil, or_false, not_or]
        exact ⟨h4, fun h => hs h.symm⟩
    · have hi' : i = s.length := by omega
      subst hi'
      rw [if_neg (by omega), if_neg (by omega)]
      have hf0 : f = 0 := by omega
      subst hf0
      simp only [List.take_length] at h4 ⊢
      rw [pieces_miss _ h4]
      split
      · rename_i hbad
        rw [spGo_none_or [] _ _ hbad]
        rfl
      · rename_i hok
        have hn : nameOk (s.drop b) = true := by
          cases h : nameOk (s.drop b) with
          | true => rfl
          | false => exact absurd (.inl h) hok
        have hl : out.length ≠ 30 := fun h => hok (.inr h)
        rw [if_pos (good_of (by simp; omega) (by
          intro z hz
          simp only [List.mem_append, List.mem_cons, List.not_mem_nil, or_false] at hz
          rcases hz with hz | rfl
          · exact h5 z hz
          · exact hn))]
        rfl

/-- What the specification's SplitPath answers is what a path is split into. -/
theorem spec_split (s : Str) (h1 : s ≠ [47]) : (match spGo s (s.length + 1) 0 0 [] with | none => none | some out => if s.length = 0 ∨ s.getD 0 0 ≠ 47 then none else some out) = splitOf s := by
  cases s with
  | nil => rfl
  | cons c r =>
    by_cases hc : c = 47
    · subst hc
      have hr : r ≠ [] := by rintro rfl; exact h1 rfl
      have e : spGo (47 :: r) ((47 :: r).length + 1) 0 0 [] = spGo (47 :: r) (47 :: r).length 1 1 [] := by
        conv => lhs; unfold spGo
        simp
      have hr1 : 1 ≤ r.length := by
        cases r with
        | nil => exact absurd rfl hr
        | cons a b => simp
      rw [e, spGo_eq (47 :: r) _ 1 1 [] (by simp) (by omega) (by simp) (Nat.le_refl _) (by simp) (by simp) (by simp)]
      simp only [List.nil_append, List.drop_one, List.tail_cons]
      rw [splitOf_cons, if_pos rfl, if_neg hr]
      by_cases hg : good (pieces r) = true
      · simp [hg]
      · simp [hg]
    · have e : splitOf (c :: r) = none := by simp [splitOf, hc]
      rw [e]
      split
      · rfl
      · simp [hc]

/-- A path is below another: its names begin with those. -/
def belowOf (a b : Str) : Bool := match splitOf a, splitOf b with
  | some x, some y => decide (x.length ≤ y.length) && decide (y.take x.length = x)
  | _, _ => false

/-- A path's parent and its last name. -/
def parentOf (s : Str) : Str × Str × Bool := match splitOf s with
  | some zs => if zs = [] then ([], [], false) else (joinOf zs.dropLast, zs.getLastD [], true)
  | none => ([], [], false)

end Go.Proofs.Ytnllhpeddoaehaa
