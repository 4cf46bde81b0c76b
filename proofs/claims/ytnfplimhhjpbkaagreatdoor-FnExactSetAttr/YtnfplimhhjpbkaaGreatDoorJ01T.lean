/-
  Joined: Mark, Path, Name.
-/
import Derived.Test.YtnfplimhhjpbkaaGreatDoorJ00T
import Derived.Lib.Strings
namespace Go.Proofs.YtnfplimhhjpbkaaGreatDoor
section
open Go.RowKit
/-- What a row of n cells holds when it is marked from 1 on. -/
def marks (n : Nat) : List Int := (List.range n).map (fun i : Nat => ((i : Int) + 1) % 256)
theorem Own.kept {w w' : World} {g n c g2 : Nat} {zs : List Int} (h : Own w g n c zs) (hg : w.grownBy w' (some g2)) (hne : g ≠ g2) : Own w' g n c zs :=
  World.ownsRow.kept h hg (.inr (by simp [Value.ownBlock, hne]))
end

section
abbrev Str := List UInt8
/-- A sign that a name may have. -/
def sign (c : UInt8) : Bool := (decide (97 ≤ c.toNat) && decide (c.toNat ≤ 122)) || (decide (48 ≤ c.toNat) && decide (c.toNat ≤ 57)) || decide (c.toNat = 95) || decide (c.toNat = 45) || decide (c.toNat = 46)
def nameOk (l : Str) : Bool := decide (1 ≤ l.length) && decide (l.length ≤ 14) && decide (l ≠ [46]) && decide (l ≠ [46, 46]) && l.all sign
/-- What stands between the slashes. -/
def pieces : Str → List Str
  | [] => [[]]
  | c :: r => if c = 47 then [] :: pieces r else match pieces r with
    | [] => [[c]]
    | p :: ps => (c :: p) :: ps
theorem pieces_ne (l : Str) : pieces l ≠ [] := by
  cases l with
  | nil => simp [pieces]
  | cons c r =>
    unfold pieces
    split
    · simp
    · split <;> simp
theorem pieces_hit (b a : Str) (h : 47 ∉ b) : pieces (b ++ 47 :: a) = b :: pieces a := by
  induction b with
  | nil => simp [pieces]
  | cons c b ih =>
    simp only [List.mem_cons, not_or] at h
    have hc : ¬ c = 47 := fun e => h.1 e.symm
    simp only [List.cons_append, pieces, if_neg hc, ih h.2]
theorem pieces_miss (b : Str) (h : 47 ∉ b) : pieces b = [b] := by
  induction b with
  | nil => simp [pieces]
  | cons c b ih =>
    simp only [List.mem_cons, not_or] at h
    have hc : ¬ c = 47 := fun e => h.1 e.symm
    simp only [pieces, if_neg hc, ih h.2]
def good (ps : List Str) : Bool := decide (ps.length ≤ 30) && ps.all nameOk
/-- What a path is split into. -/
def splitOf : Str → Option (List Str)
  | [] => none
  | c :: r => if c = 47 then (if r = [] then some [] else if good (pieces r) then some (pieces r) else none) else none
theorem splitOf_cons (c : UInt8) (r : Str) : splitOf (c :: r) = if c = 47 then (if r = [] then some [] else if good (pieces r) then some (pieces r) else none) else none := rfl
theorem split_cases {s : Str} {zs : List Str} (h : splitOf s = some zs) : (s = [47] ∧ zs = []) ∨ ∃ r, s = 47 :: r ∧ r ≠ [] ∧ good (pieces r) = true ∧ zs = pieces r := by
  cases s with
  | nil => simp [splitOf] at h
  | cons c r =>
    rw [splitOf_cons] at h
    by_cases hc : c = 47
    · subst hc
      rw [if_pos rfl] at h
      by_cases hr : r = []
      · subst hr; rw [if_pos rfl] at h; simp only [Option.some.injEq] at h; exact .inl ⟨rfl, h.symm⟩
      · rw [if_neg hr] at h
        by_cases hg : good (pieces r) = true
        · rw [if_pos hg] at h; simp only [Option.some.injEq] at h; exact .inr ⟨r, rfl, hr, hg, h.symm⟩
        · rw [if_neg hg] at h; simp at h
    · rw [if_neg hc] at h; simp at h
theorem split_good {s : Str} {zs : List Str} (h : splitOf s = some zs) : good zs = true := by
  rcases split_cases h with ⟨rfl, rfl⟩ | ⟨r, rfl, _, hg, rfl⟩
  · rfl
  · exact hg
theorem good_len {zs : List Str} (h : good zs = true) : zs.length ≤ 30 := by unfold good at h; simp only [Bool.and_eq_true, decide_eq_true_eq] at h; exact h.1
theorem good_all {zs : List Str} (h : good zs = true) : ∀ z ∈ zs, nameOk z = true := by unfold good at h; simp only [Bool.and_eq_true, List.all_eq_true] at h; exact h.2
theorem good_of {zs : List Str} (h : zs.length ≤ 30) (h2 : ∀ z ∈ zs, nameOk z = true) : good zs = true := by
  unfold good; simp only [Bool.and_eq_true, decide_eq_true_eq, List.all_eq_true]; exact ⟨h, h2⟩
theorem good_prefix {xs zs : List Str} (h : good zs = true) (hp : xs <+: zs) : good xs = true := by
  obtain ⟨t, rfl⟩ := hp
  refine good_of ?_ (fun z hz => good_all h z (by simp [hz]))
  have := good_len h
  simp at this
  omega
/-- The specification's loop: so many rounds are left, the next index, where the name began, the names so far. -/
def spGo (s : Str) : Nat → Nat → Nat → List Str → Option (List Str)
  | 0, _, _, out => some out
  | f + 1, i, b, out => if i < s.length ∧ s.getD i 0 ≠ 47 then spGo s f (i + 1) b out else
      if i = 0 then spGo s f (i + 1) (i + 1) out else
      if nameOk ((s.take i).drop b) = false ∨ out.length = 30 then none else spGo s f (i + 1) (i + 1) (out ++ [(s.take i).drop b])
theorem spGo_none_or (ps out : List Str) (p : Str) (h : nameOk p = false ∨ out.length = 30) : good (out ++ p :: ps) = false := by
  rw [Bool.eq_false_iff]
  intro hg
  rcases h with h | h
  · have := good_all hg p (by simp)
    rw [h] at this; simp at this
  · have := good_len hg
    simp at this
    omega
theorem drop_piece (s : Str) (i b : Nat) (hb : b ≤ i) (hi : i < s.length) (hs : s.getD i 0 = 47) : s.drop b = (s.take i).drop b ++ 47 :: s.drop (i + 1) := by
  have e1 : s = s.take i ++ 47 :: s.drop (i + 1) := by
    have h1 := List.take_append_drop i s
    rw [List.drop_eq_getElem_cons hi] at h1
    have h2 : s[i] = 47 := by simpa [hi] using hs
    rw [h2] at h1
    exact h1.symm
  have hl : (s.take i).length = i := by simp; omega
  generalize hx : s.take i = x at *
  generalize hy : s.drop (i + 1) = y at *
  rw [e1, List.drop_append_of_le_length (by omega)]
theorem spGo_eq (s : Str) : ∀ (f i b : Nat) (out : List Str), f = s.length + 1 - i → 1 ≤ i → i ≤ s.length → b ≤ i → 47 ∉ (s.take i).drop b → (∀ z ∈ out, nameOk z = true) → out.length ≤ 30 →
    spGo s f i b out = if good (out ++ pieces (s.drop b)) then some (out ++ pieces (s.drop b)) else none := by
  intro f
  induction f with
  | zero => intro i b out hf h1 h2; omega
  | succ f ih =>
    intro i b out hf h1 h2 h3 h4 h5 h6
    unfold spGo
    by_cases hi : i < s.length
    · by_cases hs : s.getD i 0 = 47
      · rw [if_neg (by intro h; exact h.2 hs), if_neg (by omega)]
        have hd := drop_piece s i b h3 hi hs
        have hp := pieces_hit _ (s.drop (i + 1)) h4
        rw [← hd] at hp
        rw [hp]
        split
        · rename_i hbad
          rw [spGo_none_or _ _ _ hbad]
          rfl
        · rename_i hok
          have hn : nameOk ((s.take i).drop b) = true := by
            cases h : nameOk ((s.take i).drop b) with
            | true => rfl
            | false => exact absurd (.inl h) hok
          have hl : out.length ≠ 30 := fun h => hok (.inr h)
          by_cases hi2 : i + 1 ≤ s.length
          · rw [ih (i + 1) (i + 1) (out ++ [(s.take i).drop b]) (by omega) (by omega) hi2 (Nat.le_refl _) (by simp) (by
              intro z hz
              simp only [List.mem_append, List.mem_cons, List.not_mem_nil, or_false] at hz
              rcases hz with hz | rfl
              · exact h5 z hz
              · exact hn) (by simp; omega)]
            rw [List.append_assoc]; rfl
          · omega
      · rw [if_pos ⟨hi, hs⟩, ih (i + 1) b out (by omega) (by omega) hi (by omega) ?_ h5 h6]
        have e : (s.take (i + 1)).drop b = (s.take i).drop b ++ [s.getD i 0] := by
          rw [List.take_succ_eq_append_getElem hi, List.drop_append_of_le_length (by simp; omega)]
          simp [hi]
        rw [e]
        simp only [List.mem_append, List.mem_cons, List.not_mem_nil, or_false, not_or]
        exact ⟨h4, fun h => hs h.symm⟩
    · have hi' : i = s.length := by omega
      subst hi'
      rw [if_neg (by omega), if_neg (by omega)]
      have hf0 : f = 0 := by omega
      subst hf0
      simp only [List.take_length] at h4 ⊢
      rw [pieces_miss _ h4]
      split
      · rename_i hbad
        rw [spGo_none_or [] _ _ hbad]
        rfl
      · rename_i hok
        have hn : nameOk (s.drop b) = true := by
          cases h : nameOk (s.drop b) with
          | true => rfl
          | false => exact absurd (.inl h) hok
        have hl : out.length ≠ 30 := fun h => hok (.inr h)
        rw [if_pos (good_of (by simp; omega) (by
          intro z hz
          simp only [List.mem_append, List.mem_cons, List.not_mem_nil, or_false] at hz
          rcases hz with hz | rfl
          · exact h5 z hz
          · exact hn))]
        rfl
/-- What the specification's SplitPath answers is what a path is split into. -/
theorem spec_split (s : Str) (h1 : s ≠ [47]) : (match spGo s (s.length + 1) 0 0 [] with | none => none | some out => if s.length = 0 ∨ s.getD 0 0 ≠ 47 then none else some out) = splitOf s := by
  cases s with
  | nil => rfl
  | cons c r =>
    by_cases hc : c = 47
    · subst hc
      have hr : r ≠ [] := by rintro rfl; exact h1 rfl
      have e : spGo (47 :: r) ((47 :: r).length + 1) 0 0 [] = spGo (47 :: r) (47 :: r).length 1 1 [] := by
        conv => lhs; unfold spGo
        simp
      have hr1 : 1 ≤ r.length := by
        cases r with
        | nil => exact absurd rfl hr
        | cons a b => simp
      rw [e, spGo_eq (47 :: r) _ 1 1 [] (by simp) (by omega) (by simp) (Nat.le_refl _) (by simp) (by simp) (by simp)]
      simp only [List.nil_append, List.drop_one, List.tail_cons]
      rw [splitOf_cons, if_pos rfl, if_neg hr]
      by_cases hg : good (pieces r) = true
      · simp [hg]
      · simp [hg]
    · have e : splitOf (c :: r) = none := by simp [splitOf, hc]
      rw [e]
      split
      · rfl
      · simp [hc]
end

section
open Go.RowKit
theorem ret_bool {a b : Bool} (h : a = b) : Ending.returned (.bool a) = .returned (.bool b) := by rw [h]
def signN (v : Nat) : Bool := (decide (97 ≤ v) && decide (v ≤ 122)) || (decide (48 ≤ v) && decide (v ≤ 57)) || decide (v = 95) || decide (v = 45) || decide (v = 46)
theorem signN_true {v : Nat} (h : 97 ≤ v ∧ v ≤ 122 ∨ 48 ≤ v ∧ v ≤ 57 ∨ v = 95 ∨ v = 45 ∨ v = 46) : signN v = true := by unfold signN; simp; omega
theorem signN_false {v : Nat} (h : ¬ (97 ≤ v ∧ v ≤ 122 ∨ 48 ≤ v ∧ v ≤ 57 ∨ v = 95 ∨ v = 45 ∨ v = 46)) : signN v = false := by unfold signN; simp; omega
set_option maxHeartbeats 400000 in
theorem isNameSign_nat (v : Nat) (w : World) : Calls Tryz.prog 205 #[.int .u8 (v : Int)] w fun e w' => e = .returned (.bool (signN v)) ∧ w' = w := by
  go_enter Tryz.func205, Tryz.ntmps205
  go_wp2
  all_goals go_ret
  all_goals (refine ⟨ret_bool ?_, rfl⟩; unfold signN; (try simp only [beq_iff_eq, beq_eq_false_iff_ne, ne_eq] at *); simp; omega)
theorem isNameSign_any (c : UInt8) (w : World) : Calls Tryz.prog 205 #[.int .u8 (c.toNat : Int)] w fun e w' => e = .returned (.bool (sign c)) ∧ w' = w := isNameSign_nat c.toNat w
set_option maxHeartbeats 400000 in
theorem l1In_any (x lo hi : Int) (w : World) : Calls Tryz.prog 75 #[.int .i64 x, .int .i64 lo, .int .i64 hi] w fun e w' => e = .returned (.bool (decide (lo ≤ x) && decide (x ≤ hi))) ∧ w' = w := by
  go_enter Tryz.func75, Tryz.ntmps75
  go_wp2
  all_goals go_ret
  all_goals (refine ⟨ret_bool ?_, rfl⟩; simp; try omega)
/-- The k-th byte of a text. -/
def byt (s : ByteArray) (k : Nat) : UInt8 := s.data.toList.getD k 0
theorem byt_get (s : ByteArray) (k : Nat) (h : k < s.size) : s[k] = byt s k := by
  unfold byt
  have hl : k < s.data.toList.length := by rw [← Lib.size_eq]; exact h
  simp only [List.getD_eq_getElem?_getD, List.getElem?_eq_getElem hl, Option.getD_some]
  rfl
theorem nameOk_iff (l : Str) : nameOk l = true ↔ 1 ≤ l.length ∧ l.length ≤ 14 ∧ l ≠ [46] ∧ l ≠ [46, 46] ∧ l.all sign = true := by
  unfold nameOk
  simp only [Bool.and_eq_true, decide_eq_true_eq, and_assoc]
theorem all_take (l : Str) (k : Nat) (h : k < l.length) (h1 : (l.take k).all sign = true) (h2 : sign (l.getD k 0) = true) : (l.take (k + 1)).all sign = true := by
  rw [List.take_succ_eq_append_getElem h, List.all_append, h1]
  have : l.getD k 0 = l[k] := by simp [h]
  rw [this] at h2
  simp [h2]
theorem all_not (l : Str) (k : Nat) (h : k < l.length) (h2 : sign (l.getD k 0) = false) : l.all sign = false := by
  rw [List.all_eq_false]
  refine ⟨l[k], List.getElem_mem h, ?_⟩
  have : l.getD k 0 = l[k] := by simp [h]
  rw [this] at h2
  simp [h2]
theorem nameOk_false {l : Str} (h : ¬ (1 ≤ l.length ∧ l.length ≤ 14 ∧ l ≠ [46] ∧ l ≠ [46, 46] ∧ l.all sign = true)) : nameOk l = false := by
  rw [Bool.eq_false_iff]; exact fun h' => h ((nameOk_iff l).1 h')
set_option maxHeartbeats 800000 in
theorem nameI (s : ByteArray) (w : World) (hs : s.size ≤ 4000000) : Calls Tryz.prog 161 #[.string s] w fun e w' => e = .returned (.bool (nameOk s.data.toList)) ∧ w' = w := by
  have hsz := Lib.size_eq s
  have htl := Lib.toList_data s
  by_cases h1 : (1 : Int) ≤ (s.size : Int)
  · by_cases h2 : (s.size : Int) ≤ 14
    · by_cases h3 : s.toList = [46]
      · have hf : Hid (nameOk s.data.toList = false) := nameOk_false (by rw [← htl, h3]; simp)
        clear htl hsz
        go_enter Tryz.func161, Tryz.ntmps161
        go_wp2
        go_ret
        exact ⟨ret_bool hf.out.symm, rfl⟩
      · by_cases h4 : s.toList = [46, 46]
        · have hf : Hid (nameOk s.data.toList = false) := nameOk_false (by rw [← htl, h4]; simp)
          clear htl hsz
          go_enter Tryz.func161, Tryz.ntmps161
          go_wp2
          go_ret
          exact ⟨ret_bool hf.out.symm, rfl⟩
        · have hsz' : Hid (s.size = s.data.toList.length) := hsz
          have htl' : Hid (s.toList = s.data.toList) := htl
          have hb3 : (s.toList == [46]) = false := by simpa using h3
          have hb4 : (s.toList == [46, 46]) = false := by simpa using h4
          clear htl hsz
          go_enter Tryz.func161, Tryz.ntmps161
          go_wp2
          go_loop [22] (fun i => ∃ k : Nat, k ≤ s.size ∧ i = .int .i64 k ∧ Hid ((s.data.toList.take k).all sign = true)) (fun i => s.size - (intOf i).toNat)
          case atStart => exact ⟨0, Nat.zero_le _, rfl, rfl⟩
          case round =>
            obtain ⟨k, hk, rfl, hall⟩ := hrel
            by_cases hkn : k < s.size
            · have hki : (k : Int) < (s.size : Int) := by omega
              have hb := byt_get s k hkn
              go_wp2_with fail
              refine (isNameSign_any _ w).mono ?_
              rintro e w1 ⟨rfl, rfl⟩
              cases hsg : sign (byt s k) with
              | true =>
                go_wp2
                go_round
                case rel => exact ⟨k + 1, by omega, by go_num, all_take _ k (by rw [← hsz'.out]; exact hkn) hall.out hsg⟩
                case measure => simp [intOf]; omega
              | false =>
                go_wp2
                go_ret
                refine ⟨ret_bool (nameOk_false ?_).symm, rfl⟩
                have := all_not s.data.toList k (by rw [← hsz'.out]; exact hkn) hsg
                rw [this]; simp
            · have hki : ¬ (k : Int) < (s.size : Int) := by omega
              go_wp2
              go_ret
              refine ⟨ret_bool ?_, rfl⟩
              have hl := hsz'.out
              have ha := hall.out
              rw [List.take_of_length_le (by omega)] at ha
              exact ((nameOk_iff _).2 ⟨by omega, by omega, by rw [← htl'.out]; exact h3, by rw [← htl'.out]; exact h4, ha⟩).symm
    · have hf : Hid (nameOk s.data.toList = false) := nameOk_false (by rw [← hsz]; omega)
      clear htl hsz
      go_enter Tryz.func161, Tryz.ntmps161
      go_wp2
      go_ret
      exact ⟨ret_bool hf.out.symm, rfl⟩
  · have hf : Hid (nameOk s.data.toList = false) := nameOk_false (by rw [← hsz]; omega)
    clear htl hsz
    go_enter Tryz.func161, Tryz.ntmps161
    go_wp2
    go_ret
    exact ⟨ret_bool hf.out.symm, rfl⟩
set_option maxHeartbeats 800000 in
theorem nameS (s : ByteArray) (w : World) (hs : s.size ≤ 4000000) : Calls Tryz.prog 108 #[.string s] w fun e w' => e = .returned (.bool (nameOk s.data.toList)) ∧ w' = w := by
  have hsz' : Hid (s.size = s.data.toList.length) := Lib.size_eq s
  have htl' : Hid (s.toList = s.data.toList) := Lib.toList_data s
  go_enter Tryz.func108, Tryz.ntmps108
  go_wp2
  go_loop [3] (fun i => ∃ k : Nat, k ≤ s.size ∧ i = .int .i64 k ∧ Hid ((s.data.toList.take k).all sign = true)) (fun i => s.size - (intOf i).toNat)
  case atStart => exact ⟨0, Nat.zero_le _, rfl, rfl⟩
  case round =>
    obtain ⟨k, hk, rfl, hall⟩ := hrel
    by_cases hkn : k < s.size
    · have hki : (k : Int) < (s.size : Int) := by omega
      have hb0 := byt_get s k hkn
      obtain ⟨v, hv⟩ : ∃ v, (byt s k).toNat = v := ⟨_, rfl⟩
      have hb : s[k].toNat = v := by rw [hb0]; exact hv
      have hv256 : v < 256 := by rw [← hv]; exact (byt s k).toNat_lt
      have hsg : sign (byt s k) = signN v := by rw [← hv]; rfl
      have hgo : Hid (signN v = true → (s.data.toList.take (k + 1)).all sign = true) := fun h => all_take _ k (by rw [← hsz'.out]; exact hkn) hall.out (hsg.trans h)
      have hno : Hid (signN v = false → nameOk s.data.toList = false) := fun h => nameOk_false (by rw [all_not s.data.toList k (by rw [← hsz'.out]; exact hkn) (hsg.trans h)]; simp)
      clear hb0 hsg hall hv
      go_wp2_with (go_at_call 75; refine (l1In_any _ _ _ _).mono ?_; rintro e w1 ⟨rfl, rfl⟩)
      all_goals (try simp only [bne_iff_ne, bne_eq_false_iff_eq, ne_eq, Bool.not_eq_true', Bool.not_eq_false', decide_eq_true_eq, decide_eq_false_iff_not] at *)
      all_goals first
        | (go_round
           case rel => exact ⟨k + 1, by omega, by go_num, hgo.out (signN_true (by omega))⟩
           case measure => simp [intOf]; omega)
        | (go_ret
           exact ⟨ret_bool (hno.out (signN_false (by omega))).symm, rfl⟩)
    · have hki : ¬ (k : Int) < (s.size : Int) := by omega
      have hall' : Hid (s.data.toList.all sign = true) := by
        have hl := hsz'.out
        have ha := hall.out
        rw [List.take_of_length_le (by omega)] at ha
        exact ha
      clear hall
      by_cases h1 : (1 : Int) ≤ (s.size : Int) ∧ (s.size : Int) ≤ 14
      · by_cases h3 : s.toList = [46]
        · have hb3 : (s.toList == [46]) = true := by simpa using h3
          have hf : Hid (nameOk s.data.toList = false) := nameOk_false (by rw [← htl'.out, h3]; simp)
          go_wp2_with (go_at_call 75; refine (l1In_any _ _ _ _).mono ?_; rintro e w1 ⟨rfl, rfl⟩)
          all_goals go_ret
          all_goals exact ⟨ret_bool hf.out.symm, rfl⟩
        · have hb3 : (s.toList == [46]) = false := by simpa using h3
          by_cases h4 : s.toList = [46, 46]
          · have hb4 : (s.toList == [46, 46]) = true := by simpa using h4
            have hf : Hid (nameOk s.data.toList = false) := nameOk_false (by rw [← htl'.out, h4]; simp)
            go_wp2_with (go_at_call 75; refine (l1In_any _ _ _ _).mono ?_; rintro e w1 ⟨rfl, rfl⟩)
            all_goals go_ret
            all_goals exact ⟨ret_bool hf.out.symm, rfl⟩
          · have hb4 : (s.toList == [46, 46]) = false := by simpa using h4
            have hf : Hid (nameOk s.data.toList = true) := (nameOk_iff _).2 ⟨by rw [← hsz'.out]; omega, by rw [← hsz'.out]; omega, by rw [← htl'.out]; exact h3, by rw [← htl'.out]; exact h4, hall'.out⟩
            go_wp2_with (go_at_call 75; refine (l1In_any _ _ _ _).mono ?_; rintro e w1 ⟨rfl, rfl⟩)
            all_goals go_ret
            all_goals exact ⟨ret_bool hf.out.symm, rfl⟩
      · have hf : Hid (nameOk s.data.toList = false) := nameOk_false (by rw [← hsz'.out]; omega)
        go_wp2_with (go_at_call 75; refine (l1In_any _ _ _ _).mono ?_; rintro e w1 ⟨rfl, rfl⟩)
        all_goals go_ret
        all_goals exact ⟨ret_bool hf.out.symm, rfl⟩
end
end Go.Proofs.YtnfplimhhjpbkaaGreatDoor
