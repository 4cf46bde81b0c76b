/-
  Joined: Path, Name, MarkT, Pairs, Inode.
-/
import Derived.Test.YtmfimoccemgoiaaGreatDoorJ00B
import Derived.Lib.Strings
import Derived.Deep.RegionWith
import Derived.Laws.IdiomStrings
import Derived.Deep.Slices
namespace Go.Proofs.YtmfimoccemgoiaaGreatDoor
section
abbrev Str := List UInt8
/-- A sign that a name may have. -/
def sign (c : UInt8) : Bool := (decide (97 ≤ c.toNat) && decide (c.toNat ≤ 122)) || (decide (48 ≤ c.toNat) && decide (c.toNat ≤ 57)) || decide (c.toNat = 95) || decide (c.toNat = 45) || decide (c.toNat = 46)
def nameOk (l : Str) : Bool := decide (1 ≤ l.length) && decide (l.length ≤ 14) && decide (l ≠ [46]) && decide (l ≠ [46, 46]) && l.all sign
theorem nameOk_len {l : Str} (h : nameOk l = true) : l.length ≤ 14 := by
  unfold nameOk at h
  simp only [Bool.and_eq_true, decide_eq_true_eq] at h
  exact h.1.1.1.2
/-- What stands between the slashes. -/
def pieces : Str → List Str
  | [] => [[]]
  | c :: r => if c = 47 then [] :: pieces r else match pieces r with
    | [] => [[c]]
    | p :: ps => (c :: p) :: ps
theorem pieces_slash (r : Str) : pieces (47 :: r) = [] :: pieces r := by simp [pieces]
theorem pieces_ne (l : Str) : pieces l ≠ [] := by
  cases l with
  | nil => simp [pieces]
  | cons c r =>
    unfold pieces
    split
    · simp
    · split <;> simp
theorem pieces_hit (b a : Str) (h : 47 ∉ b) : pieces (b ++ 47 :: a) = b :: pieces a := by
  induction b with
  | nil => simp [pieces]
  | cons c b ih =>
    simp only [List.mem_cons, not_or] at h
    have hc : ¬ c = 47 := fun e => h.1 e.symm
    simp only [List.cons_append, pieces, if_neg hc, ih h.2]
theorem pieces_miss (b : Str) (h : 47 ∉ b) : pieces b = [b] := by
  induction b with
  | nil => simp [pieces]
  | cons c b ih =>
    simp only [List.mem_cons, not_or] at h
    have hc : ¬ c = 47 := fun e => h.1 e.symm
    simp only [pieces, if_neg hc, ih h.2]
theorem pieces_join (r : Str) : (pieces r).flatMap (fun p => 47 :: p) = 47 :: r := by
  induction r with
  | nil => simp [pieces]
  | cons c r ih =>
    by_cases hc : c = 47
    · subst hc; rw [pieces_slash, List.flatMap_cons, ih]; rfl
    · simp only [pieces, if_neg hc]
      cases hp : pieces r with
      | nil => exact absurd hp (pieces_ne r)
      | cons p ps =>
        rw [hp] at ih
        simp only [List.flatMap_cons, List.cons_append, List.cons.injEq, true_and] at ih ⊢
        exact ih
def good (ps : List Str) : Bool := decide (ps.length ≤ 30) && ps.all nameOk
/-- What a path is split into. -/
def splitOf : Str → Option (List Str)
  | [] => none
  | c :: r => if c = 47 then (if r = [] then some [] else if good (pieces r) then some (pieces r) else none) else none
/-- What names are joined to; nothing where they are no path's. -/
def joinOf (zs : List Str) : Str := if zs = [] then [47] else if good zs then zs.flatMap (fun p => 47 :: p) else []
theorem splitOf_cons (c : UInt8) (r : Str) : splitOf (c :: r) = if c = 47 then (if r = [] then some [] else if good (pieces r) then some (pieces r) else none) else none := rfl
theorem split_cases {s : Str} {zs : List Str} (h : splitOf s = some zs) : (s = [47] ∧ zs = []) ∨ ∃ r, s = 47 :: r ∧ r ≠ [] ∧ good (pieces r) = true ∧ zs = pieces r := by
  cases s with
  | nil => simp [splitOf] at h
  | cons c r =>
    rw [splitOf_cons] at h
    by_cases hc : c = 47
    · subst hc
      rw [if_pos rfl] at h
      by_cases hr : r = []
      · subst hr; rw [if_pos rfl] at h; simp only [Option.some.injEq] at h; exact .inl ⟨rfl, h.symm⟩
      · rw [if_neg hr] at h
        by_cases hg : good (pieces r) = true
        · rw [if_pos hg] at h; simp only [Option.some.injEq] at h; exact .inr ⟨r, rfl, hr, hg, h.symm⟩
        · rw [if_neg hg] at h; simp at h
    · rw [if_neg hc] at h; simp at h
theorem split_good {s : Str} {zs : List Str} (h : splitOf s = some zs) : good zs = true := by
  rcases split_cases h with ⟨rfl, rfl⟩ | ⟨r, rfl, _, hg, rfl⟩
  · rfl
  · exact hg
theorem good_len {zs : List Str} (h : good zs = true) : zs.length ≤ 30 := by unfold good at h; simp only [Bool.and_eq_true, decide_eq_true_eq] at h; exact h.1
theorem good_all {zs : List Str} (h : good zs = true) : ∀ z ∈ zs, nameOk z = true := by unfold good at h; simp only [Bool.and_eq_true, List.all_eq_true] at h; exact h.2
theorem good_of {zs : List Str} (h : zs.length ≤ 30) (h2 : ∀ z ∈ zs, nameOk z = true) : good zs = true := by
  unfold good; simp only [Bool.and_eq_true, decide_eq_true_eq, List.all_eq_true]; exact ⟨h, h2⟩
theorem good_prefix {xs zs : List Str} (h : good zs = true) (hp : xs <+: zs) : good xs = true := by
  obtain ⟨t, rfl⟩ := hp
  refine good_of ?_ (fun z hz => good_all h z (by simp [hz]))
  have := good_len h
  simp at this
  omega
theorem join_split {s : Str} {zs : List Str} (h : splitOf s = some zs) : joinOf zs = s := by
  rcases split_cases h with ⟨rfl, rfl⟩ | ⟨r, rfl, _, hg, rfl⟩
  · rfl
  · rw [joinOf, if_neg (pieces_ne r), if_pos hg, pieces_join]
/-- The specification's loop: so many rounds are left, the next index, where the name began, the names so far. -/
def spGo (s : Str) : Nat → Nat → Nat → List Str → Option (List Str)
  | 0, _, _, out => some out
  | f + 1, i, b, out => if i < s.length ∧ s.getD i 0 ≠ 47 then spGo s f (i + 1) b out else
      if i = 0 then spGo s f (i + 1) (i + 1) out else
      if nameOk ((s.take i).drop b) = false ∨ out.length = 30 then none else spGo s f (i + 1) (i + 1) (out ++ [(s.take i).drop b])
theorem spGo_none_or (ps out : List Str) (p : Str) (h : nameOk p = false ∨ out.length = 30) : good (out ++ p :: ps) = false := by
  rw [Bool.eq_false_iff]
  intro hg
  rcases h with h | h
  · have := good_all hg p (by simp)
    rw [h] at this; simp at this
  · have := good_len hg
    simp at this
    omega
theorem drop_piece (s : Str) (i b : Nat) (hb : b ≤ i) (hi : i < s.length) (hs : s.getD i 0 = 47) : s.drop b = (s.take i).drop b ++ 47 :: s.drop (i + 1) := by
  have e1 : s = s.take i ++ 47 :: s.drop (i + 1) := by
    have h1 := List.take_append_drop i s
    rw [List.drop_eq_getElem_cons hi] at h1
    have h2 : s[i] = 47 := by simpa [hi] using hs
    rw [h2] at h1
    exact h1.symm
  have hl : (s.take i).length = i := by simp; omega
  generalize hx : s.take i = x at *
  generalize hy : s.drop (i + 1) = y at *
  rw [e1, List.drop_append_of_le_length (by omega)]
theorem spGo_eq (s : Str) : ∀ (f i b : Nat) (out : List Str), f = s.length + 1 - i → 1 ≤ i → i ≤ s.length → b ≤ i → 47 ∉ (s.take i).drop b → (∀ z ∈ out, nameOk z = true) → out.length ≤ 30 →
    spGo s f i b out = if good (out ++ pieces (s.drop b)) then some (out ++ pieces (s.drop b)) else none := by
  intro f
  induction f with
  | zero => intro i b out hf h1 h2; omega
  | succ f ih =>
    intro i b out hf h1 h2 h3 h4 h5 h6
    unfold spGo
    by_cases hi : i < s.length
    · by_cases hs : s.getD i 0 = 47
      · rw [if_neg (by intro h; exact h.2 hs), if_neg (by omega)]
        have hd := drop_piece s i b h3 hi hs
        have hp := pieces_hit _ (s.drop (i + 1)) h4
        rw [← hd] at hp
        rw [hp]
        split
        · rename_i hbad
          rw [spGo_none_or _ _ _ hbad]
          rfl
        · rename_i hok
          have hn : nameOk ((s.take i).drop b) = true := by
            cases h : nameOk ((s.take i).drop b) with
            | true => rfl
            | false => exact absurd (.inl h) hok
          have hl : out.length ≠ 30 := fun h => hok (.inr h)
          by_cases hi2 : i + 1 ≤ s.length
          · rw [ih (i + 1) (i + 1) (out ++ [(s.take i).drop b]) (by omega) (by omega) hi2 (Nat.le_refl _) (by simp) (by
              intro z hz
              simp only [List.mem_append, List.mem_cons, List.not_mem_nil, or_false] at hz
              rcases hz with hz | rfl
              · exact h5 z hz
              · exact hn) (by simp; omega)]
            rw [List.append_assoc]; rfl
          · omega
      · rw [if_pos ⟨hi, hs⟩, ih (i + 1) b out (by omega) (by omega) hi (by omega) ?_ h5 h6]
        have e : (s.take (i + 1)).drop b = (s.take i).drop b ++ [s.getD i 0] := by
          rw [List.take_succ_eq_append_getElem hi, List.drop_append_of_le_length (by simp; omega)]
          simp [hi]
        rw [e]
        simp only [List.mem_append, List.mem_cons, List.not_mem_nil, or_false, not_or]
        exact ⟨h4, fun h => hs h.symm⟩
    · have hi' : i = s.length := by omega
      subst hi'
      rw [if_neg (by omega), if_neg (by omega)]
      have hf0 : f = 0 := by omega
      subst hf0
      simp only [List.take_length] at h4 ⊢
      rw [pieces_miss _ h4]
      split
      · rename_i hbad
        rw [spGo_none_or [] _ _ hbad]
        rfl
      · rename_i hok
        have hn : nameOk (s.drop b) = true := by
          cases h : nameOk (s.drop b) with
          | true => rfl
          | false => exact absurd (.inl h) hok
        have hl : out.length ≠ 30 := fun h => hok (.inr h)
        rw [if_pos (good_of (by simp; omega) (by
          intro z hz
          simp only [List.mem_append, List.mem_cons, List.not_mem_nil, or_false] at hz
          rcases hz with hz | rfl
          · exact h5 z hz
          · exact hn))]
        rfl
/-- What the specification's SplitPath answers is what a path is split into. -/
theorem spec_split (s : Str) (h1 : s ≠ [47]) : (match spGo s (s.length + 1) 0 0 [] with | none => none | some out => if s.length = 0 ∨ s.getD 0 0 ≠ 47 then none else some out) = splitOf s := by
  cases s with
  | nil => rfl
  | cons c r =>
    by_cases hc : c = 47
    · subst hc
      have hr : r ≠ [] := by rintro rfl; exact h1 rfl
      have e : spGo (47 :: r) ((47 :: r).length + 1) 0 0 [] = spGo (47 :: r) (47 :: r).length 1 1 [] := by
        conv => lhs; unfold spGo
        simp
      have hr1 : 1 ≤ r.length := by
        cases r with
        | nil => exact absurd rfl hr
        | cons a b => simp
      rw [e, spGo_eq (47 :: r) _ 1 1 [] (by simp) (by omega) (by simp) (Nat.le_refl _) (by simp) (by simp) (by simp)]
      simp only [List.nil_append, List.drop_one, List.tail_cons]
      rw [splitOf_cons, if_pos rfl, if_neg hr]
      by_cases hg : good (pieces r) = true
      · simp [hg]
      · simp [hg]
    · have e : splitOf (c :: r) = none := by simp [splitOf, hc]
      rw [e]
      split
      · rfl
      · simp [hc]
/-- A path's parent and its last name. -/
def parentOf (s : Str) : Str × Str × Bool := match splitOf s with
  | some zs => if zs = [] then ([], [], false) else (joinOf zs.dropLast, zs.getLastD [], true)
  | none => ([], [], false)
end

section
open Go.RowKit
theorem ret_bool {a b : Bool} (h : a = b) : Ending.returned (.bool a) = .returned (.bool b) := by rw [h]
def signN (v : Nat) : Bool := (decide (97 ≤ v) && decide (v ≤ 122)) || (decide (48 ≤ v) && decide (v ≤ 57)) || decide (v = 95) || decide (v = 45) || decide (v = 46)
theorem signN_true {v : Nat} (h : 97 ≤ v ∧ v ≤ 122 ∨ 48 ≤ v ∧ v ≤ 57 ∨ v = 95 ∨ v = 45 ∨ v = 46) : signN v = true := by unfold signN; simp; omega
theorem signN_false {v : Nat} (h : ¬ (97 ≤ v ∧ v ≤ 122 ∨ 48 ≤ v ∧ v ≤ 57 ∨ v = 95 ∨ v = 45 ∨ v = 46)) : signN v = false := by unfold signN; simp; omega
set_option maxHeartbeats 400000 in
theorem isNameSign_nat (v : Nat) (w : World) : Calls Tryz.prog 239 #[.int .u8 (v : Int)] w fun e w' => e = .returned (.bool (signN v)) ∧ w' = w := by
  go_enter Tryz.func239, Tryz.ntmps239
  go_wp2
  all_goals go_ret
  all_goals (refine ⟨ret_bool ?_, rfl⟩; unfold signN; (try simp only [beq_iff_eq, beq_eq_false_iff_ne, ne_eq] at *); simp; omega)
theorem isNameSign_any (c : UInt8) (w : World) : Calls Tryz.prog 239 #[.int .u8 (c.toNat : Int)] w fun e w' => e = .returned (.bool (sign c)) ∧ w' = w := isNameSign_nat c.toNat w
set_option maxHeartbeats 400000 in
theorem l1In_any (x lo hi : Int) (w : World) : Calls Tryz.prog 104 #[.int .i64 x, .int .i64 lo, .int .i64 hi] w fun e w' => e = .returned (.bool (decide (lo ≤ x) && decide (x ≤ hi))) ∧ w' = w := by
  go_enter Tryz.func104, Tryz.ntmps104
  go_wp2
  all_goals go_ret
  all_goals (refine ⟨ret_bool ?_, rfl⟩; simp; try omega)
/-- The k-th byte of a text. -/
def byt (s : ByteArray) (k : Nat) : UInt8 := s.data.toList.getD k 0
theorem byt_get (s : ByteArray) (k : Nat) (h : k < s.size) : s[k] = byt s k := by
  unfold byt
  have hl : k < s.data.toList.length := by rw [← Lib.size_eq]; exact h
  simp only [List.getD_eq_getElem?_getD, List.getElem?_eq_getElem hl, Option.getD_some]
  rfl
theorem nameOk_iff (l : Str) : nameOk l = true ↔ 1 ≤ l.length ∧ l.length ≤ 14 ∧ l ≠ [46] ∧ l ≠ [46, 46] ∧ l.all sign = true := by
  unfold nameOk
  simp only [Bool.and_eq_true, decide_eq_true_eq, and_assoc]
theorem all_take (l : Str) (k : Nat) (h : k < l.length) (h1 : (l.take k).all sign = true) (h2 : sign (l.getD k 0) = true) : (l.take (k + 1)).all sign = true := by
  rw [List.take_succ_eq_append_getElem h, List.all_append, h1]
  have : l.getD k 0 = l[k] := by simp [h]
  rw [this] at h2
  simp [h2]
theorem all_not (l : Str) (k : Nat) (h : k < l.length) (h2 : sign (l.getD k 0) = false) : l.all sign = false := by
  rw [List.all_eq_false]
  refine ⟨l[k], List.getElem_mem h, ?_⟩
  have : l.getD k 0 = l[k] := by simp [h]
  rw [this] at h2
  simp [h2]
theorem nameOk_false {l : Str} (h : ¬ (1 ≤ l.length ∧ l.length ≤ 14 ∧ l ≠ [46] ∧ l ≠ [46, 46] ∧ l.all sign = true)) : nameOk l = false := by
  rw [Bool.eq_false_iff]; exact fun h' => h ((nameOk_iff l).1 h')
set_option maxHeartbeats 800000 in
theorem nameI (s : ByteArray) (w : World) (hs : s.size ≤ 4000000) : Calls Tryz.prog 188 #[.string s] w fun e w' => e = .returned (.bool (nameOk s.data.toList)) ∧ w' = w := by
  have hsz := Lib.size_eq s
  have htl := Lib.toList_data s
  by_cases h1 : (1 : Int) ≤ (s.size : Int)
  · by_cases h2 : (s.size : Int) ≤ 14
    · by_cases h3 : s.toList = [46]
      · have hf : Hid (nameOk s.data.toList = false) := nameOk_false (by rw [← htl, h3]; simp)
        clear htl hsz
        go_enter Tryz.func188, Tryz.ntmps188
        go_wp2
        go_ret
        exact ⟨ret_bool hf.out.symm, rfl⟩
      · by_cases h4 : s.toList = [46, 46]
        · have hf : Hid (nameOk s.data.toList = false) := nameOk_false (by rw [← htl, h4]; simp)
          clear htl hsz
          go_enter Tryz.func188, Tryz.ntmps188
          go_wp2
          go_ret
          exact ⟨ret_bool hf.out.symm, rfl⟩
        · have hsz' : Hid (s.size = s.data.toList.length) := hsz
          have htl' : Hid (s.toList = s.data.toList) := htl
          have hb3 : (s.toList == [46]) = false := by simpa using h3
          have hb4 : (s.toList == [46, 46]) = false := by simpa using h4
          clear htl hsz
          go_enter Tryz.func188, Tryz.ntmps188
          go_wp2
          go_loop [22] (fun i => ∃ k : Nat, k ≤ s.size ∧ i = .int .i64 k ∧ Hid ((s.data.toList.take k).all sign = true)) (fun i => s.size - (intOf i).toNat)
          case atStart => exact ⟨0, Nat.zero_le _, rfl, rfl⟩
          case round =>
            obtain ⟨k, hk, rfl, hall⟩ := hrel
            by_cases hkn : k < s.size
            · have hki : (k : Int) < (s.size : Int) := by omega
              have hb := byt_get s k hkn
              go_wp2_with fail
              refine (isNameSign_any _ w).mono ?_
              rintro e w1 ⟨rfl, rfl⟩
              cases hsg : sign (byt s k) with
              | true =>
                go_wp2
                go_round
                case rel => exact ⟨k + 1, by omega, by go_num, all_take _ k (by rw [← hsz'.out]; exact hkn) hall.out hsg⟩
                case measure => simp [intOf]; omega
              | false =>
                go_wp2
                go_ret
                refine ⟨ret_bool (nameOk_false ?_).symm, rfl⟩
                have := all_not s.data.toList k (by rw [← hsz'.out]; exact hkn) hsg
                rw [this]; simp
            · have hki : ¬ (k : Int) < (s.size : Int) := by omega
              go_wp2
              go_ret
              refine ⟨ret_bool ?_, rfl⟩
              have hl := hsz'.out
              have ha := hall.out
              rw [List.take_of_length_le (by omega)] at ha
              exact ((nameOk_iff _).2 ⟨by omega, by omega, by rw [← htl'.out]; exact h3, by rw [← htl'.out]; exact h4, ha⟩).symm
    · have hf : Hid (nameOk s.data.toList = false) := nameOk_false (by rw [← hsz]; omega)
      clear htl hsz
      go_enter Tryz.func188, Tryz.ntmps188
      go_wp2
      go_ret
      exact ⟨ret_bool hf.out.symm, rfl⟩
  · have hf : Hid (nameOk s.data.toList = false) := nameOk_false (by rw [← hsz]; omega)
    clear htl hsz
    go_enter Tryz.func188, Tryz.ntmps188
    go_wp2
    go_ret
    exact ⟨ret_bool hf.out.symm, rfl⟩
set_option maxHeartbeats 800000 in
theorem nameS (s : ByteArray) (w : World) (hs : s.size ≤ 4000000) : Calls Tryz.prog 119 #[.string s] w fun e w' => e = .returned (.bool (nameOk s.data.toList)) ∧ w' = w := by
  have hsz' : Hid (s.size = s.data.toList.length) := Lib.size_eq s
  have htl' : Hid (s.toList = s.data.toList) := Lib.toList_data s
  go_enter Tryz.func119, Tryz.ntmps119
  go_wp2
  go_loop [3] (fun i => ∃ k : Nat, k ≤ s.size ∧ i = .int .i64 k ∧ Hid ((s.data.toList.take k).all sign = true)) (fun i => s.size - (intOf i).toNat)
  case atStart => exact ⟨0, Nat.zero_le _, rfl, rfl⟩
  case round =>
    obtain ⟨k, hk, rfl, hall⟩ := hrel
    by_cases hkn : k < s.size
    · have hki : (k : Int) < (s.size : Int) := by omega
      have hb0 := byt_get s k hkn
      obtain ⟨v, hv⟩ : ∃ v, (byt s k).toNat = v := ⟨_, rfl⟩
      have hb : s[k].toNat = v := by rw [hb0]; exact hv
      have hv256 : v < 256 := by rw [← hv]; exact (byt s k).toNat_lt
      have hsg : sign (byt s k) = signN v := by rw [← hv]; rfl
      have hgo : Hid (signN v = true → (s.data.toList.take (k + 1)).all sign = true) := fun h => all_take _ k (by rw [← hsz'.out]; exact hkn) hall.out (hsg.trans h)
      have hno : Hid (signN v = false → nameOk s.data.toList = false) := fun h => nameOk_false (by rw [all_not s.data.toList k (by rw [← hsz'.out]; exact hkn) (hsg.trans h)]; simp)
      clear hb0 hsg hall hv
      go_wp2_with (go_at_call 104; refine (l1In_any _ _ _ _).mono ?_; rintro e w1 ⟨rfl, rfl⟩)
      all_goals (try simp only [bne_iff_ne, bne_eq_false_iff_eq, ne_eq, Bool.not_eq_true', Bool.not_eq_false', decide_eq_true_eq, decide_eq_false_iff_not] at *)
      all_goals first
        | (go_round
           case rel => exact ⟨k + 1, by omega, by go_num, hgo.out (signN_true (by omega))⟩
           case measure => simp [intOf]; omega)
        | (go_ret
           exact ⟨ret_bool (hno.out (signN_false (by omega))).symm, rfl⟩)
    · have hki : ¬ (k : Int) < (s.size : Int) := by omega
      have hall' : Hid (s.data.toList.all sign = true) := by
        have hl := hsz'.out
        have ha := hall.out
        rw [List.take_of_length_le (by omega)] at ha
        exact ha
      clear hall
      by_cases h1 : (1 : Int) ≤ (s.size : Int) ∧ (s.size : Int) ≤ 14
      · by_cases h3 : s.toList = [46]
        · have hb3 : (s.toList == [46]) = true := by simpa using h3
          have hf : Hid (nameOk s.data.toList = false) := nameOk_false (by rw [← htl'.out, h3]; simp)
          go_wp2_with (go_at_call 104; refine (l1In_any _ _ _ _).mono ?_; rintro e w1 ⟨rfl, rfl⟩)
          all_goals go_ret
          all_goals exact ⟨ret_bool hf.out.symm, rfl⟩
        · have hb3 : (s.toList == [46]) = false := by simpa using h3
          by_cases h4 : s.toList = [46, 46]
          · have hb4 : (s.toList == [46, 46]) = true := by simpa using h4
            have hf : Hid (nameOk s.data.toList = false) := nameOk_false (by rw [← htl'.out, h4]; simp)
            go_wp2_with (go_at_call 104; refine (l1In_any _ _ _ _).mono ?_; rintro e w1 ⟨rfl, rfl⟩)
            all_goals go_ret
            all_goals exact ⟨ret_bool hf.out.symm, rfl⟩
          · have hb4 : (s.toList == [46, 46]) = false := by simpa using h4
            have hf : Hid (nameOk s.data.toList = true) := (nameOk_iff _).2 ⟨by rw [← hsz'.out]; omega, by rw [← hsz'.out]; omega, by rw [← htl'.out]; exact h3, by rw [← htl'.out]; exact h4, hall'.out⟩
            go_wp2_with (go_at_call 104; refine (l1In_any _ _ _ _).mono ?_; rintro e w1 ⟨rfl, rfl⟩)
            all_goals go_ret
            all_goals exact ⟨ret_bool hf.out.symm, rfl⟩
      · have hf : Hid (nameOk s.data.toList = false) := nameOk_false (by rw [← hsz'.out]; omega)
        go_wp2_with (go_at_call 104; refine (l1In_any _ _ _ _).mono ?_; rintro e w1 ⟨rfl, rfl⟩)
        all_goals go_ret
        all_goals exact ⟨ret_bool hf.out.symm, rfl⟩
end

section
open Go.RowKit
/-- The digits of a number ahead of what is there, fuel f. -/
def mtL : Nat → Nat → Str → Str
  | 0, _, acc => acc
  | f + 1, k, acc => if k = 0 then acc else mtL f (k / 10) ((48 + k % 10).toUInt8 :: acc)
/-- The mark of a number. -/
def mt (k : Nat) : ByteArray := ⟨(109 :: mtL 7 k []).toArray⟩
theorem mtL_zero (f : Nat) (acc : Str) : mtL f 0 acc = acc := by cases f <;> simp [mtL]
theorem mtL_step {f k : Nat} (acc : Str) (h : k ≠ 0) : mtL (f + 1) k acc = mtL f (k / 10) ((48 + k % 10).toUInt8 :: acc) := by
  conv => lhs; unfold mtL
  rw [if_neg h]
theorem app_mk (a b : Str) : (⟨a.toArray⟩ : ByteArray) ++ ⟨b.toArray⟩ = ⟨(a ++ b).toArray⟩ := by
  apply ByteArray.ext
  simp [ByteArray.data_append]
theorem conv_digit (w : World) (m : Nat) : (convert 37 9 (.slice (some ⟨w.heap.size, 0, none⟩) 1 1)).run Tryz.prog (w.alloc (.cells #[.int .u8 (48 + (m : Int) % 10)] 5)) = .ok (.string ⟨#[(48 + m % 10).toUInt8]⟩) (w.alloc (.cells #[.int .u8 (48 + (m : Int) % 10)] 5)) := by
  refine run_convert_bytes_back _ 37 9 5 ⟨w.heap.size, 0, none⟩ 1 [(48 + m % 10).toUInt8] Tryz.underlying37 Tryz.underlying5 Tryz.underlying9 ?_
  intro j hj
  obtain rfl : j = 0 := by simpa using hj
  have hd : (((48 + m % 10).toUInt8.toNat : Nat) : Int) = 48 + (m : Int) % 10 := by
    have : (48 + m % 10).toUInt8.toNat = 48 + m % 10 := by
      simp only [Nat.toUInt8_eq, UInt8.toNat_ofNat']
      omega
    rw [this]; omega
  simp only [List.getElem_cons_zero, hd]
  exact cell_one_new w (.int .u8 (48 + (m : Int) % 10)) 5 0 _ rfl
theorem gr_of_below {w w' : World} (h : Below w.heap.size w w') (r : Option Nat) : w.grownBy w' r := ⟨h.os, h.tape, h.output, h.size, fun k hk _ => h.block k hk⟩
end

section
open Go.RowKit
abbrev VP := Value × Value
/-- The cells of pairs. -/
def pv (ps : List VP) : List Value := ps.flatMap fun p => [p.1, p.2]
theorem pv_length (ps : List VP) : (pv ps).length = ps.length * 2 := by
  induction ps with
  | nil => rfl
  | cons p ps ih => simp only [pv, List.flatMap_cons, List.length_append, List.length_cons, List.length_nil] at ih ⊢; omega
theorem pv_append (ps qs : List VP) : pv (ps ++ qs) = pv ps ++ pv qs := by simp [pv]
theorem pv_at (ps : List VP) (i : Nat) (h : i < ps.length) : (pv ps)[i * 2]? = some (ps.getD i (undef, undef)).1 ∧ (pv ps)[i * 2 + 1]? = some (ps.getD i (undef, undef)).2 := by
  induction ps generalizing i with
  | nil => simp at h
  | cons p ps ih =>
    cases i with
    | zero => simp [pv]
    | succ i =>
      have hi := ih i (by simpa using h)
      have e : (i + 1) * 2 = i * 2 + 2 := by omega
      simp only [pv, List.flatMap_cons, List.cons_append, List.nil_append] at hi ⊢
      rw [e]
      simp only [List.getElem?_cons_succ, List.getD_cons_succ]
      exact hi
theorem pv_set (ps : List VP) (i : Nat) (p : VP) (h : i < ps.length) : ((pv ps).set (i * 2) p.1).set (i * 2 + 1) p.2 = pv (ps.set i p) := by
  induction ps generalizing i with
  | nil => simp at h
  | cons q ps ih =>
    cases i with
    | zero => simp [pv]
    | succ i =>
      have hi := ih i (by simpa using h)
      have e : (i + 1) * 2 = i * 2 + 2 := by omega
      simp only [pv, List.flatMap_cons, List.cons_append, List.nil_append, List.set_cons_succ] at hi ⊢
      rw [e]
      simp only [List.set_cons_succ, hi]
/-- The pairs can be read from the address a on. -/
def RdP (w : World) (a : Option Addr) (ps : List VP) : Prop :=
  ps = [] ∨ ∃ b off, a = some ⟨b, off, none⟩ ∧ ∀ i, i < ps.length → w.cell? ⟨b, off + i * 2, none⟩ = some (ps.getD i (undef, undef)).1 ∧ w.cell? ⟨b, off + i * 2 + 1, none⟩ = some (ps.getD i (undef, undef)).2
theorem RdP.lt {w : World} {a : Option Addr} {ps : List VP} (h : RdP w a ps) (hz : ps ≠ []) : ∃ b off, a = some ⟨b, off, none⟩ ∧ b < w.heap.size ∧ ∀ i, i < ps.length → w.cell? ⟨b, off + i * 2, none⟩ = some (ps.getD i (undef, undef)).1 ∧ w.cell? ⟨b, off + i * 2 + 1, none⟩ = some (ps.getD i (undef, undef)).2 := by
  rcases h with h | ⟨b, off, rfl, hc⟩
  · exact absurd h hz
  · exact ⟨b, off, rfl, World.block_lt_of_cell? w _ (hc 0 (List.length_pos_iff.2 hz)).1, hc⟩
theorem RdP.keep {w w' : World} {a : Option Addr} {ps : List VP} (h : RdP w a ps) (hb : Below w.heap.size w w') : RdP w' a ps := by
  by_cases hz : ps = []
  · exact .inl hz
  · obtain ⟨b, off, rfl, hlt, hc⟩ := h.lt hz
    refine .inr ⟨b, off, rfl, fun i hi => ?_⟩
    rw [hb.cell (p := ⟨b, off + i * 2, none⟩) hlt, hb.cell (p := ⟨b, off + i * 2 + 1, none⟩) hlt]
    exact hc i hi
/-- The block g is the call's own row of pairs of type e. -/
def OwnP (e : TypeId) (w : World) (g n cap : Nat) (ps : List VP) : Prop := w.ownsRow 0 e 2 (.slice (some ⟨g, 0, none⟩) n cap) n (pv ps)
theorem OwnP.len {e : TypeId} {w : World} {g n cap : Nat} {ps : List VP} (h : OwnP e w g n cap ps) : ps.length = n := by
  have := h.1
  rw [pv_length] at this
  omega
theorem OwnP.lt {e : TypeId} {w : World} {g n cap : Nat} {ps : List VP} (h : OwnP e w g n cap ps) : g < w.heap.size := (World.ownsRow.lt h g rfl).2
theorem OwnP.keep {e : TypeId} {w w' : World} {g n cap : Nat} {ps : List VP} (h : OwnP e w g n cap ps) (hb : Below w.heap.size w w') : OwnP e w' g n cap ps := by
  refine ⟨h.1, ?_⟩
  rcases h.2 with h' | ⟨g', cap', cur, h', hb', hgg, rest⟩
  · exact .inl h'
  · exact .inr ⟨g', cap', cur, h', hb', (hb.block g' (Array.getElem?_eq_some_iff.1 hgg).1).trans hgg, rest⟩
theorem OwnP.kept {e : TypeId} {w w' : World} {g n c g2 : Nat} {ps : List VP} (h : OwnP e w g n c ps) (hg : w.grownBy w' (some g2)) (hne : g ≠ g2) : OwnP e w' g n c ps :=
  World.ownsRow.kept h hg (.inr (by simp [Value.ownBlock, hne]))
theorem add_at (g j : Nat) : (⟨g, 0, none⟩ : Addr).add j = ⟨g, j, none⟩ := by
  unfold Addr.add
  split
  · rename_i h; rw [h]
  · simp
theorem OwnP.cells {e : TypeId} {w : World} {g n cap : Nat} {ps : List VP} (h : OwnP e w g n cap ps) (i : Nat) (hi : i < n) : w.cell? ⟨g, i * 2, none⟩ = some (ps.getD i (undef, undef)).1 ∧ w.cell? ⟨g, i * 2 + 1, none⟩ = some (ps.getD i (undef, undef)).2 := by
  obtain ⟨h1, h2⟩ := pv_at ps i (by rw [h.len]; exact hi)
  have k1 := World.ownsRow.cells h (g := g) rfl (i * 2) _ h1
  have k2 := World.ownsRow.cells h (g := g) rfl (i * 2 + 1) _ h2
  rw [add_at] at k1 k2
  exact ⟨k1, k2⟩
theorem OwnP.rd {e : TypeId} {w : World} {g n cap : Nat} {ps : List VP} (h : OwnP e w g n cap ps) : RdP w (some ⟨g, 0, none⟩) ps := by
  refine .inr ⟨g, 0, rfl, fun i hi => ?_⟩
  have := h.cells i (by rw [← h.len]; exact hi)
  simpa using this
theorem ownP_stored {e : TypeId} {w : World} {g n cap : Nat} {ps : List VP} (h : OwnP e w g n cap ps) (k : Nat) (hk : k < n) (p : VP) : OwnP e ((w.setCell ⟨g, k * 2, none⟩ p.1).setCell ⟨g, k * 2 + 1, none⟩ p.2) g n cap (ps.set k p) := by
  have h1 := (World.ownsRow.stored h (k * 2) p.1).1
  have h2 := (World.ownsRow.stored h1 (k * 2 + 1) p.2).1
  unfold OwnP
  rw [pv_set ps k p (by rw [h.len]; exact hk)] at h2
  exact h2
theorem OwnP.frozen {e : TypeId} {w : World} {g n cap : Nat} {ps : List VP} (h : OwnP e w g n cap ps) (i : Nat) : w.frozen? ⟨g, i, none⟩ = false := World.ownsRow.frozenAt h i
set_option maxHeartbeats 400000 in
theorem toEnt_any (z : ByteArray) (x : Int) (w : World) :
    Calls Tryz.prog 215 #[.agg #[.string z, .int .i64 x]] w fun e w' => e = .returned (.agg #[.string z, .int .i64 x]) ∧ Below w.heap.size w w' := by
  go_enter Tryz.func215, Tryz.ntmps215
  go_wp2
  refine bodyPost_ret (v := .agg #[.string z, .int .i64 x]) (by simp [results, Tryz.f215, go_sem]) rfl ?_
  exact ⟨rfl, (((Below.refl _ w).alloc (Nat.le_refl _) _).alloc (by simp) _).alloc (by simp; omega) _⟩
set_option maxHeartbeats 400000 in
theorem toAttr_any (z y : ByteArray) (w : World) :
    Calls Tryz.prog 216 #[.agg #[.string z, .string y]] w fun e w' => e = .returned (.agg #[.string z, .string y]) ∧ Below w.heap.size w w' := by
  go_enter Tryz.func216, Tryz.ntmps216
  go_wp2
  refine bodyPost_ret (v := .agg #[.string z, .string y]) (by simp [results, Tryz.f216, go_sem]) rfl ?_
  exact ⟨rfl, (((Below.refl _ w).alloc (Nat.le_refl _) _).alloc (by simp) _).alloc (by simp; omega) _⟩
theorem Tryz.infoEnt : (Tryz.prog.info? 89).map (fun i => (i.zero, i.size, i.bytes)) = some (some (.agg #[.string ⟨#[]⟩, .int .i64 0]), 2, 24) := by kernel_rfl
theorem Tryz.infoAttr : (Tryz.prog.info? 75).map (fun i => (i.zero, i.size, i.bytes)) = some (some (.agg #[.string ⟨#[]⟩, .string ⟨#[]⟩]), 2, 32) := by kernel_rfl
/-- Entries, as cells. -/
def eP (es : List (ByteArray × Int)) : List VP := es.map fun e => (.string e.1, .int .i64 e.2)
theorem eP_length (es : List (ByteArray × Int)) : (eP es).length = es.length := by simp [eP]
theorem eP_at (es : List (ByteArray × Int)) (i : Nat) (h : i < es.length) : (eP es).getD i (undef, undef) = (.string es[i].1, .int .i64 es[i].2) := by simp [eP, h]
/-- Attributes, as cells. -/
def aP (es : List (ByteArray × ByteArray)) : List VP := es.map fun e => (.string e.1, .string e.2)
theorem aP_length (es : List (ByteArray × ByteArray)) : (aP es).length = es.length := by simp [aP]
theorem aP_at (es : List (ByteArray × ByteArray)) (i : Nat) (h : i < es.length) : (aP es).getD i (undef, undef) = (.string es[i].1, .string es[i].2) := by simp [aP, h]
/-- What lies in the copy behind k rounds. -/
def cpyP (d : VP) (ps : List VP) (k : Nat) : List VP := ps.take k ++ List.replicate (ps.length - k) d
theorem cpyP_zero (d : VP) (ps : List VP) : cpyP d ps 0 = List.replicate ps.length d := by simp [cpyP]
theorem cpyP_all (d : VP) (ps : List VP) : cpyP d ps ps.length = ps := by simp [cpyP]
theorem cpyP_set (d : VP) (ps : List VP) (k : Nat) (h : k < ps.length) : (cpyP d ps k).set k (ps.getD k (undef, undef)) = cpyP d ps (k + 1) := by
  unfold cpyP
  rw [List.set_append_right _ _ (by simp; omega)]
  have h1 : k - (ps.take k).length = 0 := by simp; omega
  rw [h1]
  obtain ⟨m, hm⟩ : ∃ m, ps.length - k = m + 1 := ⟨ps.length - k - 1, by omega⟩
  have h2 : ps.length - (k + 1) = m := by omega
  rw [hm, h2, List.replicate_succ, List.set_cons_zero, List.take_succ_eq_append_getElem h, List.append_assoc]
  simp [h]
theorem pv_replicate (n : Nat) (d : VP) : pv (List.replicate n d) = (List.range (n * 2)).map (fun i => if i % 2 = 0 then d.1 else d.2) := by
  apply List.ext_getElem?
  intro i
  by_cases hi : i < n * 2
  · obtain ⟨h1, h2⟩ := pv_at (List.replicate n d) (i / 2) (by simp; omega)
    have hd : (List.replicate n d).getD (i / 2) (undef, undef) = d := by simp [show i / 2 < n by omega]
    rw [hd] at h1 h2
    rcases Nat.mod_two_eq_zero_or_one i with e | e
    · rw [show i / 2 * 2 = i by omega] at h1
      rw [h1]; simp [hi, e]
    · rw [show i / 2 * 2 + 1 = i by omega] at h2
      rw [h2]; simp [hi, e]
  · rw [List.getElem?_eq_none (by rw [pv_length]; simp; omega), List.getElem?_eq_none (by simp; omega)]
theorem made_ownP {e : TypeId} {w : World} {g n : Nat} {v1 v2 : Value} (h : w.ownsRow 0 e 2 (.slice (some ⟨g, 0, none⟩) n n) n (madeCells (Value.agg #[v1, v2]).cells (n * 2)).toList) : OwnP e w g n n (List.replicate n (v1, v2)) := by
  unfold OwnP
  rw [pv_replicate]
  have e' : (madeCells (Value.agg #[v1, v2]).cells (n * 2)).toList = (List.range (n * 2)).map (fun i => if i % 2 = 0 then v1 else v2) := by
    apply List.ext_getElem
    · simp [madeCells]
    · intro i h1 h2
      simp only [madeCells, Value.cells, List.getElem_map, List.getElem_range]
      rcases Nat.mod_two_eq_zero_or_one i with e | e <;> simp [e]
  rw [← e']
  exact h
set_option maxHeartbeats 800000 in
theorem toEntS_any (a : Option Addr) (n cap : Nat) (es : List (ByteArray × Int)) (w : World) (hn : es.length = n) (hs : n ≤ 1048576) (hr : RdP w a (eP es)) :
    Calls Tryz.prog 164 #[.slice a n cap] w fun e w' => e = .returned (.slice (some ⟨w.heap.size, 0, none⟩) n n) ∧ OwnP 89 w' w.heap.size n n (eP es) ∧ Below w.heap.size w w' := by
  obtain ⟨i0, hi, hz0, hz1, hz2⟩ := info_parts Tryz.infoEnt
  have hm : n ≤ maxLen := by unfold maxLen; omega
  have hby : i0.bytes * n ≤ 281474976710656 := by rw [hz2]; omega
  by_cases h0 : n = 0
  · subst h0
    obtain rfl : es = [] := List.length_eq_zero_iff.1 hn
    go_enter Tryz.func164, Tryz.ntmps164
    go_wp2_with (at_make; refine wpList_make_full _ rfl (.tmp 6) (.tmp 6) 65 rfl 0 89 i0 (.agg #[.string ⟨#[]⟩, .int .i64 0]) 2 Tryz.underlying65 hi hz0 hz1 .i64 .i64 _ _ 0 rfl rfl rfl rfl hby hm (Nat.zero_le _) ?_; intro w1 hown hgrow)
    refine wp_loop_rounds 1 ?_; rw [rounds_succ]
    go_wp2
    go_ret
    exact ⟨rfl, made_ownP hown, (Below.refl _ _).grown hgrow (Nat.le_refl _) (by simp)⟩
  · obtain ⟨b, off, rfl, hlt, hc⟩ := hr.lt (by intro h; have := congrArg List.length h; rw [eP_length] at this; simp at this; subst this; simp at hn; omega)
    clear hr
    have hn' : Hid (es.length = n) := hn
    clear hn
    go_enter Tryz.func164, Tryz.ntmps164
    go_wp2_with (at_make; refine wpList_make_full _ rfl (.tmp 6) (.tmp 6) 65 rfl 0 89 i0 (.agg #[.string ⟨#[]⟩, .int .i64 0]) 2 Tryz.underlying65 hi hz0 hz1 .i64 .i64 _ _ n rfl rfl rfl rfl hby hm (Nat.zero_le _) ?_; intro w1 hown hgrow)
    have ho := made_ownP hown
    have hB : Below w.heap.size w w1 := (Below.refl _ _).grown hgrow (Nat.le_refl _) (by simp)
    clear hown hgrow
    go_loopw [4] (fun i wr => ∃ k : Nat, k ≤ n ∧ i = .int .i64 k ∧ OwnP 89 wr w.heap.size n n (cpyP (.string ⟨#[]⟩, .int .i64 0) (eP es) k) ∧ Below w.heap.size w wr) (fun i _ => n - (intOf i).toNat)
    case atStart => exact ⟨0, Nat.zero_le _, rfl, by rw [cpyP_zero, eP_length, hn'.out]; exact ho, hB⟩
    case round =>
      obtain ⟨k, hk, rfl, hown, hbel⟩ := hrel
      clear ho hB
      by_cases hkn : k < n
      · have hkl : k < es.length := by rw [hn'.out]; exact hkn
        have hki : (k : Int) < (n : Int) := by omega
        have hx := hc k (by rw [eP_length]; exact hkl)
        have hset := cpyP_set (.string ⟨#[]⟩, .int .i64 0) (eP es) k (by rw [eP_length]; exact hkl)
        rw [eP_at es k hkl] at hx hset
        obtain ⟨z, hz⟩ : ∃ z, es[k].1 = z := ⟨_, rfl⟩
        obtain ⟨y, hy⟩ : ∃ y, es[k].2 = y := ⟨_, rfl⟩
        rw [hz, hy] at hx hset
        have hcx : wr.cell? ⟨b, off + k * 2, none⟩ = _ := (hbel.cell (by exact hlt)).trans hx.1
        have hcy : wr.cell? ⟨b, off + k * 2 + 1, none⟩ = _ := (hbel.cell (by exact hlt)).trans hx.2
        dsimp only at hcx hcy
        go_wp2_with fail
        refine (toEnt_any z y wr).mono ?_
        rintro e w1 ⟨rfl, hb1⟩
        have ho1 := hown.keep hb1
        have hlc := ho1.lt
        obtain ⟨q1, q2⟩ := ho1.cells k hkn
        have f1 := ho1.frozen (k * 2)
        have f2 := ho1.frozen (k * 2 + 1)
        have hst := ownP_stored ho1 k hkn (.string z, .int .i64 y)
        rw [hset] at hst
        dsimp only at hst
        have hbel1 : Below w.heap.size w w1 := hbel.trans (hb1.mono hbel.size)
        have hbel' := (hbel1.setCell (p := ⟨w.heap.size, k * 2, none⟩) (Nat.le_refl _) (.string z)).setCell (p := ⟨w.heap.size, k * 2 + 1, none⟩) (Nat.le_refl _) (.int .i64 y)
        obtain ⟨V1, hV1⟩ : ∃ V, ((cpyP (.string ⟨#[]⟩, .int .i64 0) (eP es) k).getD k (undef, undef)).1 = V := ⟨_, rfl⟩
        obtain ⟨V2, hV2⟩ : ∃ V, ((cpyP (.string ⟨#[]⟩, .int .i64 0) (eP es) k).getD k (undef, undef)).2 = V := ⟨_, rfl⟩
        rw [hV1] at q1
        rw [hV2] at q2
        clear hset hown hbel ho1 hb1 hx hbel1 hV1 hV2 hz hy hcx hcy hlc
        go_wp2
        go_roundw
        case rel => exact ⟨k + 1, by omega, by go_num, hst, hbel'⟩
        case measure => simp [intOf]; omega
      · go_wp2
        go_ret
        obtain rfl : k = n := by omega
        refine ⟨rfl, ?_, hbel⟩
        have := hn'.out
        rw [← this, ← eP_length, cpyP_all, eP_length, this] at hown
        exact hown
set_option maxHeartbeats 800000 in
theorem toAttrS_any (a : Option Addr) (n cap : Nat) (es : List (ByteArray × ByteArray)) (w : World) (hn : es.length = n) (hs : n ≤ 1048576) (hr : RdP w a (aP es)) :
    Calls Tryz.prog 165 #[.slice a n cap] w fun e w' => e = .returned (.slice (some ⟨w.heap.size, 0, none⟩) n n) ∧ OwnP 75 w' w.heap.size n n (aP es) ∧ Below w.heap.size w w' := by
  obtain ⟨i0, hi, hz0, hz1, hz2⟩ := info_parts Tryz.infoAttr
  have hm : n ≤ maxLen := by unfold maxLen; omega
  have hby : i0.bytes * n ≤ 281474976710656 := by rw [hz2]; omega
  by_cases h0 : n = 0
  · subst h0
    obtain rfl : es = [] := List.length_eq_zero_iff.1 hn
    go_enter Tryz.func165, Tryz.ntmps165
    go_wp2_with (at_make; refine wpList_make_full _ rfl (.tmp 6) (.tmp 6) 66 rfl 0 75 i0 (.agg #[.string ⟨#[]⟩, .string ⟨#[]⟩]) 2 Tryz.underlying66 hi hz0 hz1 .i64 .i64 _ _ 0 rfl rfl rfl rfl hby hm (Nat.zero_le _) ?_; intro w1 hown hgrow)
    refine wp_loop_rounds 1 ?_; rw [rounds_succ]
    go_wp2
    go_ret
    exact ⟨rfl, made_ownP hown, (Below.refl _ _).grown hgrow (Nat.le_refl _) (by simp)⟩
  · obtain ⟨b, off, rfl, hlt, hc⟩ := hr.lt (by intro h; have := congrArg List.length h; rw [aP_length] at this; simp at this; subst this; simp at hn; omega)
    clear hr
    have hn' : Hid (es.length = n) := hn
    clear hn
    go_enter Tryz.func165, Tryz.ntmps165
    go_wp2_with (at_make; refine wpList_make_full _ rfl (.tmp 6) (.tmp 6) 66 rfl 0 75 i0 (.agg #[.string ⟨#[]⟩, .string ⟨#[]⟩]) 2 Tryz.underlying66 hi hz0 hz1 .i64 .i64 _ _ n rfl rfl rfl rfl hby hm (Nat.zero_le _) ?_; intro w1 hown hgrow)
    have ho := made_ownP hown
    have hB : Below w.heap.size w w1 := (Below.refl _ _).grown hgrow (Nat.le_refl _) (by simp)
    clear hown hgrow
    go_loopw [4] (fun i wr => ∃ k : Nat, k ≤ n ∧ i = .int .i64 k ∧ OwnP 75 wr w.heap.size n n (cpyP (.string ⟨#[]⟩, .string ⟨#[]⟩) (aP es) k) ∧ Below w.heap.size w wr) (fun i _ => n - (intOf i).toNat)
    case atStart => exact ⟨0, Nat.zero_le _, rfl, by rw [cpyP_zero, aP_length, hn'.out]; exact ho, hB⟩
    case round =>
      obtain ⟨k, hk, rfl, hown, hbel⟩ := hrel
      clear ho hB
      by_cases hkn : k < n
      · have hkl : k < es.length := by rw [hn'.out]; exact hkn
        have hki : (k : Int) < (n : Int) := by omega
        have hx := hc k (by rw [aP_length]; exact hkl)
        have hset := cpyP_set (.string ⟨#[]⟩, .string ⟨#[]⟩) (aP es) k (by rw [aP_length]; exact hkl)
        rw [aP_at es k hkl] at hx hset
        obtain ⟨z, hz⟩ : ∃ z, es[k].1 = z := ⟨_, rfl⟩
        obtain ⟨y, hy⟩ : ∃ y, es[k].2 = y := ⟨_, rfl⟩
        rw [hz, hy] at hx hset
        have hcx : wr.cell? ⟨b, off + k * 2, none⟩ = _ := (hbel.cell (by exact hlt)).trans hx.1
        have hcy : wr.cell? ⟨b, off + k * 2 + 1, none⟩ = _ := (hbel.cell (by exact hlt)).trans hx.2
        dsimp only at hcx hcy
        go_wp2_with fail
        refine (toAttr_any z y wr).mono ?_
        rintro e w1 ⟨rfl, hb1⟩
        have ho1 := hown.keep hb1
        have hlc := ho1.lt
        obtain ⟨q1, q2⟩ := ho1.cells k hkn
        have f1 := ho1.frozen (k * 2)
        have f2 := ho1.frozen (k * 2 + 1)
        have hst := ownP_stored ho1 k hkn (.string z, .string y)
        rw [hset] at hst
        dsimp only at hst
        have hbel1 : Below w.heap.size w w1 := hbel.trans (hb1.mono hbel.size)
        have hbel' := (hbel1.setCell (p := ⟨w.heap.size, k * 2, none⟩) (Nat.le_refl _) (.string z)).setCell (p := ⟨w.heap.size, k * 2 + 1, none⟩) (Nat.le_refl _) (.string y)
        obtain ⟨V1, hV1⟩ : ∃ V, ((cpyP (.string ⟨#[]⟩, .string ⟨#[]⟩) (aP es) k).getD k (undef, undef)).1 = V := ⟨_, rfl⟩
        obtain ⟨V2, hV2⟩ : ∃ V, ((cpyP (.string ⟨#[]⟩, .string ⟨#[]⟩) (aP es) k).getD k (undef, undef)).2 = V := ⟨_, rfl⟩
        rw [hV1] at q1
        rw [hV2] at q2
        clear hset hown hbel ho1 hb1 hx hbel1 hV1 hV2 hz hy hcx hcy hlc
        go_wp2
        go_roundw
        case rel => exact ⟨k + 1, by omega, by go_num, hst, hbel'⟩
        case measure => simp [intOf]; omega
      · go_wp2
        go_ret
        obtain rfl : k = n := by omega
        refine ⟨rfl, ?_, hbel⟩
        have := hn'.out
        rw [← this, ← aP_length, cpyP_all, aP_length, this] at hown
        exact hown
/-- Block B holds the cells vs, of type t. -/
def Blk (W : World) (B : Nat) (t : TypeId) (vs : Array Value) : Prop := W.heap[B]? = some (.cells vs t (0, 0))
theorem Blk.lt {W : World} {B : Nat} {t : TypeId} {vs : Array Value} (h : Blk W B t vs) : B < W.heap.size := (Array.getElem?_eq_some_iff.1 h).1
theorem Blk.cell {W : World} {B : Nat} {t : TypeId} {vs : Array Value} (h : Blk W B t vs) (j : Nat) : W.cell? ⟨B, j, none⟩ = vs[j]? := cell_of_row W B j vs t (0, 0) h
theorem Blk.frozen {W : World} {B : Nat} {t : TypeId} {vs : Array Value} (h : Blk W B t vs) (j : Nat) : W.frozen? ⟨B, j, none⟩ = false := frozen_of_row W B j vs t h
theorem Blk.new (W : World) (t : TypeId) (vs : Array Value) : Blk (W.alloc (.cells vs t)) W.heap.size t vs := heap_alloc_new W _
theorem Blk.keep {W W' : World} {B : Nat} {t : TypeId} {vs : Array Value} (h : Blk W B t vs) (hb : Below W.heap.size W W') : Blk W' B t vs := (hb.block B h.lt).trans h
theorem Blk.alloc {W : World} {B : Nat} {t : TypeId} {vs : Array Value} (h : Blk W B t vs) (o : Obj) : Blk (W.alloc o) B t vs := h.keep ((Below.refl _ W).alloc (Nat.le_refl _) o)
theorem Blk.set {W : World} {B : Nat} {t : TypeId} {vs : Array Value} (h : Blk W B t vs) (j : Nat) (v : Value) : Blk (W.setCell ⟨B, j, none⟩ v) B t (vs.setIfInBounds j v) := heap_setCell_same W B j vs t v h
theorem Blk.other {W : World} {B : Nat} {t : TypeId} {vs : Array Value} (h : Blk W B t vs) {B' : Nat} (hne : B ≠ B') (j : Nat) (v : Value) : Blk (W.setCell ⟨B', j, none⟩ v) B t vs := (heap_setCell_other W ⟨B', j, none⟩ B v hne).trans h
theorem Blk.kept {W W' : World} {B g : Nat} {t : TypeId} {vs : Array Value} (h : Blk W B t vs) (hg : W.grownBy W' (some g)) (hne : B ≠ g) : Blk W' B t vs := (hg.block B h.lt (by simpa using hne)).trans h
end

section
open Go.RowKit
/-- What an inode tells. -/
structure InoD where
  ino : Int
  kind : Int
  links : Int
  data : List Int
  ents : List (ByteArray × Int)
  attrs : List (ByteArray × ByteArray)
/-- An inode as a value: the slices lead to a1, a2, a3. -/
def inoV (D : InoD) (a1 : Option Addr) (c1 : Nat) (a2 : Option Addr) (c2 : Nat) (a3 : Option Addr) (c3 : Nat) : Value :=
  .agg #[.int .i64 D.ino, .int .i64 D.kind, .int .i64 D.links, .slice a1 D.data.length c1, .slice a2 D.ents.length c2, .slice a3 D.attrs.length c3]
/-- The inode's lists can be read. -/
structure InoRd (w : World) (D : InoD) (a1 a2 a3 : Option Addr) : Prop where
  data : Rd w a1 D.data
  byt : Byt D.data
  ents : RdP w a2 (eP D.ents)
  attrs : RdP w a3 (aP D.attrs)
theorem InoRd.keep {w w' : World} {D : InoD} {a1 a2 a3 : Option Addr} (h : InoRd w D a1 a2 a3) (hb : Below w.heap.size w w') : InoRd w' D a1 a2 a3 :=
  ⟨h.data.keep hb, h.byt, h.ents.keep hb, h.attrs.keep hb⟩
/-- The inode's lists are rows of the call's own. -/
structure InoOwn (w : World) (D : InoD) (g1 c1 g2 c2 g3 c3 : Nat) : Prop where
  data : Own w g1 D.data.length c1 D.data
  byt : Byt D.data
  ents : OwnP 89 w g2 D.ents.length c2 (eP D.ents)
  attrs : OwnP 75 w g3 D.attrs.length c3 (aP D.attrs)
theorem InoOwn.rd {w : World} {D : InoD} {g1 c1 g2 c2 g3 c3 : Nat} (h : InoOwn w D g1 c1 g2 c2 g3 c3) : InoRd w D (some ⟨g1, 0, none⟩) (some ⟨g2, 0, none⟩) (some ⟨g3, 0, none⟩) :=
  ⟨h.data.rd, h.byt, h.ents.rd, h.attrs.rd⟩
theorem InoOwn.keep {w w' : World} {D : InoD} {g1 c1 g2 c2 g3 c3 : Nat} (h : InoOwn w D g1 c1 g2 c2 g3 c3) (hb : Below w.heap.size w w') : InoOwn w' D g1 c1 g2 c2 g3 c3 :=
  ⟨h.data.keep hb h.data.lt, h.byt, h.ents.keep hb, h.attrs.keep hb⟩
theorem size_setC (w : World) (a : Addr) (v : Value) : (w.setCell a v).heap.size = w.heap.size := by simp [World.setCell]
theorem gr_setC (w : World) (gc j : Nat) (v : Value) : w.grownBy (w.setCell ⟨gc, j, none⟩ v) (some gc) :=
  ⟨rfl, rfl, rfl, by simp [World.setCell], fun k _ hk => heap_setCell_other w ⟨gc, j, none⟩ k v (fun e => hk (by simp [e]))⟩
set_option maxHeartbeats 1600000 in
theorem toInode_any (D : InoD) (a1 a2 a3 : Option Addr) (c1 c2 c3 : Nat) (w : World) (h1 : D.data.length ≤ 1048576) (h2 : D.ents.length ≤ 1048576) (h3 : D.attrs.length ≤ 1048576) (hr : InoRd w D a1 a2 a3) :
    Calls Tryz.prog 109 #[inoV D a1 c1 a2 c2 a3 c3] w fun e w' => ∃ g1 g2 g3 : Nat, e = .returned (inoV D (some ⟨g1, 0, none⟩) D.data.length (some ⟨g2, 0, none⟩) D.ents.length (some ⟨g3, 0, none⟩) D.attrs.length) ∧ w.heap.size ≤ g1 ∧ g1 < g2 ∧ g2 < g3 ∧ InoOwn w' D g1 D.data.length g2 D.ents.length g3 D.attrs.length ∧ Below w.heap.size w w' := by
  obtain ⟨ino, kind, links, data, ents, attrs⟩ := D
  obtain ⟨n1, hn1⟩ : ∃ n, data.length = n := ⟨_, rfl⟩
  obtain ⟨n2, hn2⟩ : ∃ n, ents.length = n := ⟨_, rfl⟩
  obtain ⟨n3, hn3⟩ : ∃ n, attrs.length = n := ⟨_, rfl⟩
  dsimp only at h1 h2 h3
  unfold inoV
  dsimp only
  rw [hn1] at h1
  rw [hn2] at h2
  rw [hn3] at h3
  simp only [hn1, hn2, hn3]
  have k1 : Hid (data.length = n1) := hn1
  have k2 : Hid (ents.length = n2) := hn2
  have k3 : Hid (attrs.length = n3) := hn3
  clear hn1 hn2 hn3
  obtain ⟨r1, r2, r3, r4⟩ := hr
  dsimp only at r1 r2 r3 r4
  go_enter Tryz.func109, Tryz.ntmps109
  go_wp2_with fail
  have z0 : Blk (((w.alloc (.cells #[.int .i64 ino, .int .i64 kind, .int .i64 links, .slice a1 n1 c1, .slice a2 n2 c2, .slice a3 n3 c3] 134)).alloc (.cells #[.int .i64 0, .int .i64 0, .int .i64 0, .slice none 0 0, .slice none 0 0, .slice none 0 0] 68)).alloc (.cells #[.int .i64 ino, .int .i64 kind, .int .i64 links, .slice none 0 0, .slice none 0 0, .slice none 0 0] 68)) w.heap.size 134 #[.int .i64 ino, .int .i64 kind, .int .i64 links, .slice a1 n1 c1, .slice a2 n2 c2, .slice a3 n3 c3] := ((Blk.new w 134 _).alloc _).alloc _
  have z1 := (Blk.new (w.alloc (.cells #[.int .i64 ino, .int .i64 kind, .int .i64 links, .slice a1 n1 c1, .slice a2 n2 c2, .slice a3 n3 c3] 134)) 68 #[.int .i64 0, .int .i64 0, .int .i64 0, .slice none 0 0, .slice none 0 0, .slice none 0 0]).alloc (.cells #[.int .i64 ino, .int .i64 kind, .int .i64 links, .slice none 0 0, .slice none 0 0, .slice none 0 0] 68)
  have z2 := Blk.new ((w.alloc (.cells #[.int .i64 ino, .int .i64 kind, .int .i64 links, .slice a1 n1 c1, .slice a2 n2 c2, .slice a3 n3 c3] 134)).alloc (.cells #[.int .i64 0, .int .i64 0, .int .i64 0, .slice none 0 0, .slice none 0 0, .slice none 0 0] 68)) 68 #[.int .i64 ino, .int .i64 kind, .int .i64 links, .slice none 0 0, .slice none 0 0, .slice none 0 0]
  simp only [World.size_alloc] at z1 z2
  have hB0 : Below w.heap.size w (((w.alloc (.cells #[.int .i64 ino, .int .i64 kind, .int .i64 links, .slice a1 n1 c1, .slice a2 n2 c2, .slice a3 n3 c3] 134)).alloc (.cells #[.int .i64 0, .int .i64 0, .int .i64 0, .slice none 0 0, .slice none 0 0, .slice none 0 0] 68)).alloc (.cells #[.int .i64 ino, .int .i64 kind, .int .i64 links, .slice none 0 0, .slice none 0 0, .slice none 0 0] 68)) := (((Below.refl _ w).alloc (Nat.le_refl _) _).alloc (by simp) _).alloc (by simp; omega) _
  have hs0 : (((w.alloc (.cells #[.int .i64 ino, .int .i64 kind, .int .i64 links, .slice a1 n1 c1, .slice a2 n2 c2, .slice a3 n3 c3] 134)).alloc (.cells #[.int .i64 0, .int .i64 0, .int .i64 0, .slice none 0 0, .slice none 0 0, .slice none 0 0] 68)).alloc (.cells #[.int .i64 ino, .int .i64 kind, .int .i64 links, .slice none 0 0, .slice none 0 0, .slice none 0 0] 68)).heap.size = w.heap.size + 1 + 1 + 1 := by simp
  obtain ⟨W0, hW0⟩ : ∃ W0, (((w.alloc (.cells #[.int .i64 ino, .int .i64 kind, .int .i64 links, .slice a1 n1 c1, .slice a2 n2 c2, .slice a3 n3 c3] 134)).alloc (.cells #[.int .i64 0, .int .i64 0, .int .i64 0, .slice none 0 0, .slice none 0 0, .slice none 0 0] 68)).alloc (.cells #[.int .i64 ino, .int .i64 kind, .int .i64 links, .slice none 0 0, .slice none 0 0, .slice none 0 0] 68)) = W0 := ⟨_, rfl⟩
  rw [hW0] at z0 z1 z2 hB0 hs0 ⊢
  clear hW0
  refine (toByteS_any a1 n1 c1 data W0 k1.out h1 (r1.keep hB0)).mono ?_
  rintro e w1 ⟨rfl, o1, b1⟩
  rw [hs0] at o1 ⊢
  have hs1 := o1.lt
  have y0 := z0.keep b1
  have y1 := z1.keep b1
  have y2 := z2.keep b1
  have x0 := y0.cell 4
  have x2 := y2.cell 3
  have f2 := y2.frozen 3
  have B1 : Below w.heap.size w (w1.setCell ⟨w.heap.size + 1 + 1, 3, none⟩ (.slice (some ⟨w.heap.size + 1 + 1 + 1, 0, none⟩) n1 n1)) := (hB0.trans (b1.mono (by omega))).setCell (p := ⟨w.heap.size + 1 + 1, 3, none⟩) (by simp only; omega) (.slice (some ⟨w.heap.size + 1 + 1 + 1, 0, none⟩) n1 n1)
  have u0 := y0.other (B' := w.heap.size + 1 + 1) (by omega) 3 (.slice (some ⟨w.heap.size + 1 + 1 + 1, 0, none⟩) n1 n1)
  have u1 := y1.other (B' := w.heap.size + 1 + 1) (by omega) 3 (.slice (some ⟨w.heap.size + 1 + 1 + 1, 0, none⟩) n1 n1)
  have u2 := y2.set 3 (.slice (some ⟨w.heap.size + 1 + 1 + 1, 0, none⟩) n1 n1)
  have p1 : Own (w1.setCell ⟨w.heap.size + 1 + 1, 3, none⟩ (.slice (some ⟨w.heap.size + 1 + 1 + 1, 0, none⟩) n1 n1)) (w.heap.size + 1 + 1 + 1) n1 n1 data := o1.kept (gr_setC w1 (w.heap.size + 1 + 1) 3 _) (by omega)
  have hs1' : (w1.setCell ⟨w.heap.size + 1 + 1, 3, none⟩ (.slice (some ⟨w.heap.size + 1 + 1 + 1, 0, none⟩) n1 n1)).heap.size = w1.heap.size := size_setC w1 _ _
  clear z0 z1 z2 y0 y1 y2 o1 b1 hB0
  go_wp2_with fail
  clear x0 x2 f2
  obtain ⟨W1, hW1⟩ : ∃ W1, w1.setCell ⟨w.heap.size + 1 + 1, 3, none⟩ (.slice (some ⟨w.heap.size + 1 + 1 + 1, 0, none⟩) n1 n1) = W1 := ⟨_, rfl⟩
  rw [hW1] at B1 u0 u1 u2 p1 hs1' ⊢
  clear hW1
  refine (toEntS_any a2 n2 c2 ents W1 k2.out h2 (r3.keep B1)).mono ?_
  rintro e w2 ⟨rfl, o2, b2⟩
  obtain ⟨G2, hG2⟩ : ∃ G, W1.heap.size = G := ⟨_, rfl⟩
  rw [hG2] at o2 ⊢
  have hs2 := o2.lt
  have hg12 : w.heap.size + 1 + 1 + 1 < G2 := by omega
  have y0 := u0.keep b2
  have y1 := u1.keep b2
  have y2 := u2.keep b2
  have p1' := p1.keep b2 p1.lt
  have x0 := y0.cell 5
  have x2 := y2.cell 4
  have f2 := y2.frozen 4
  have B2 : Below w.heap.size w (w2.setCell ⟨w.heap.size + 1 + 1, 4, none⟩ (.slice (some ⟨G2, 0, none⟩) n2 n2)) := (B1.trans (b2.mono (by omega))).setCell (p := ⟨w.heap.size + 1 + 1, 4, none⟩) (by simp only; omega) _
  have v0 := y0.other (B' := w.heap.size + 1 + 1) (by omega) 4 (.slice (some ⟨G2, 0, none⟩) n2 n2)
  have v1 := y1.other (B' := w.heap.size + 1 + 1) (by omega) 4 (.slice (some ⟨G2, 0, none⟩) n2 n2)
  have v2 := y2.set 4 (.slice (some ⟨G2, 0, none⟩) n2 n2)
  have p2 := p1'.kept (gr_setC w2 (w.heap.size + 1 + 1) 4 (.slice (some ⟨G2, 0, none⟩) n2 n2)) (by omega)
  have e2 := o2.kept (gr_setC w2 (w.heap.size + 1 + 1) 4 (.slice (some ⟨G2, 0, none⟩) n2 n2)) (by omega)
  have hs2' : (w2.setCell ⟨w.heap.size + 1 + 1, 4, none⟩ (.slice (some ⟨G2, 0, none⟩) n2 n2)).heap.size = w2.heap.size := size_setC w2 _ _
  clear u0 u1 u2 y0 y1 y2 o2 b2 B1 p1 p1'
  go_wp2_with fail
  clear x0 x2 f2
  obtain ⟨W2, hW2⟩ : ∃ W2, w2.setCell ⟨w.heap.size + 1 + 1, 4, none⟩ (.slice (some ⟨G2, 0, none⟩) n2 n2) = W2 := ⟨_, rfl⟩
  rw [hW2] at B2 v0 v1 v2 p2 e2 hs2' ⊢
  clear hW2
  refine (toAttrS_any a3 n3 c3 attrs W2 k3.out h3 (r4.keep B2)).mono ?_
  rintro e w3 ⟨rfl, o3, b3⟩
  obtain ⟨G3, hG3⟩ : ∃ G, W2.heap.size = G := ⟨_, rfl⟩
  rw [hG3] at o3 ⊢
  have hs3 := o3.lt
  have hg23 : G2 < G3 := by omega
  have y1 := v1.keep b3
  have y2 := v2.keep b3
  have p3 := p2.keep b3 p2.lt
  have e3 := e2.keep b3
  have B3 : Below w.heap.size w w3 := B2.trans (b3.mono (by omega))
  have t2 := y2.cell 5
  have f2 := y2.frozen 5
  have i0 := y2.cell 0
  have i1 := y2.cell 1
  have i2 := y2.cell 2
  have i3 := y2.cell 3
  have i4 := y2.cell 4
  have j0 := y1.cell 0
  have j1 := y1.cell 1
  have j2 := y1.cell 2
  have j3 := y1.cell 3
  have j4 := y1.cell 4
  have j5 := y1.cell 5
  have m0 := y1.frozen 0
  have m1 := y1.frozen 1
  have m2 := y1.frozen 2
  have m3 := y1.frozen 3
  have m4 := y1.frozen 4
  have m5 := y1.frozen 5
  simp at i0 i1 i2 i3 i4 t2 j0 j1 j2 j3 j4 j5
  have zf := ((((((((y1.other (B' := w.heap.size + 1 + 1) (by omega) 5 (.slice (some ⟨G3, 0, none⟩) n3 n3)).set 0 (.int .i64 ino)).set 1 (.int .i64 kind)).set 2 (.int .i64 links)).set 3 (.slice (some ⟨w.heap.size + 1 + 1 + 1, 0, none⟩) n1 n1)).set 4 (.slice (some ⟨G2, 0, none⟩) n2 n2)).set 5 (.slice (some ⟨G3, 0, none⟩) n3 n3)))
  have ga := gr_setC w3 (w.heap.size + 1 + 1) 5 (.slice (some ⟨G3, 0, none⟩) n3 n3)
  have gb := ((((((gr_setC (w3.setCell ⟨w.heap.size + 1 + 1, 5, none⟩ (.slice (some ⟨G3, 0, none⟩) n3 n3)) (w.heap.size + 1) 0 (.int .i64 ino)).trans (gr_setC ((w3.setCell ⟨w.heap.size + 1 + 1, 5, none⟩ (.slice (some ⟨G3, 0, none⟩) n3 n3)).setCell ⟨w.heap.size + 1, 0, none⟩ (.int .i64 ino)) (w.heap.size + 1) 1 (.int .i64 kind))).trans (gr_setC (((w3.setCell ⟨w.heap.size + 1 + 1, 5, none⟩ (.slice (some ⟨G3, 0, none⟩) n3 n3)).setCell ⟨w.heap.size + 1, 0, none⟩ (.int .i64 ino)).setCell ⟨w.heap.size + 1, 1, none⟩ (.int .i64 kind)) (w.heap.size + 1) 2 (.int .i64 links))).trans (gr_setC ((((w3.setCell ⟨w.heap.size + 1 + 1, 5, none⟩ (.slice (some ⟨G3, 0, none⟩) n3 n3)).setCell ⟨w.heap.size + 1, 0, none⟩ (.int .i64 ino)).setCell ⟨w.heap.size + 1, 1, none⟩ (.int .i64 kind)).setCell ⟨w.heap.size + 1, 2, none⟩ (.int .i64 links)) (w.heap.size + 1) 3 (.slice (some ⟨w.heap.size + 1 + 1 + 1, 0, none⟩) n1 n1))).trans (gr_setC (((((w3.setCell ⟨w.heap.size + 1 + 1, 5, none⟩ (.slice (some ⟨G3, 0, none⟩) n3 n3)).setCell ⟨w.heap.size + 1, 0, none⟩ (.int .i64 ino)).setCell ⟨w.heap.size + 1, 1, none⟩ (.int .i64 kind)).setCell ⟨w.heap.size + 1, 2, none⟩ (.int .i64 links)).setCell ⟨w.heap.size + 1, 3, none⟩ (.slice (some ⟨w.heap.size + 1 + 1 + 1, 0, none⟩) n1 n1)) (w.heap.size + 1) 4 (.slice (some ⟨G2, 0, none⟩) n2 n2))).trans (gr_setC ((((((w3.setCell ⟨w.heap.size + 1 + 1, 5, none⟩ (.slice (some ⟨G3, 0, none⟩) n3 n3)).setCell ⟨w.heap.size + 1, 0, none⟩ (.int .i64 ino)).setCell ⟨w.heap.size + 1, 1, none⟩ (.int .i64 kind)).setCell ⟨w.heap.size + 1, 2, none⟩ (.int .i64 links)).setCell ⟨w.heap.size + 1, 3, none⟩ (.slice (some ⟨w.heap.size + 1 + 1 + 1, 0, none⟩) n1 n1)).setCell ⟨w.heap.size + 1, 4, none⟩ (.slice (some ⟨G2, 0, none⟩) n2 n2)) (w.heap.size + 1) 5 (.slice (some ⟨G3, 0, none⟩) n3 n3)))
  have P3 := (p3.kept ga (by omega)).kept gb (by omega)
  have E3 := (e3.kept ga (by omega)).kept gb (by omega)
  have A3 := (o3.kept ga (by omega)).kept gb (by omega)
  have BF : Below w.heap.size w (((((((w3.setCell ⟨w.heap.size + 1 + 1, 5, none⟩ (.slice (some ⟨G3, 0, none⟩) n3 n3)).setCell ⟨w.heap.size + 1, 0, none⟩ (.int .i64 ino)).setCell ⟨w.heap.size + 1, 1, none⟩ (.int .i64 kind)).setCell ⟨w.heap.size + 1, 2, none⟩ (.int .i64 links)).setCell ⟨w.heap.size + 1, 3, none⟩ (.slice (some ⟨w.heap.size + 1 + 1 + 1, 0, none⟩) n1 n1)).setCell ⟨w.heap.size + 1, 4, none⟩ (.slice (some ⟨G2, 0, none⟩) n2 n2)).setCell ⟨w.heap.size + 1, 5, none⟩ (.slice (some ⟨G3, 0, none⟩) n3 n3)) := (B3.grown ga B3.size (by intro k hk; simp at hk; omega)).grown gb (by have := ga.size; have := B3.size; omega) (by intro k hk; simp at hk; omega)
  have d0 := zf.cell 0
  have d1 := zf.cell 1
  have d2 := zf.cell 2
  have d3 := zf.cell 3
  have d4 := zf.cell 4
  have d5 := zf.cell 5
  simp at d0 d1 d2 d3 d4 d5
  have HF : Hid (Own (((((((w3.setCell ⟨w.heap.size + 1 + 1, 5, none⟩ (.slice (some ⟨G3, 0, none⟩) n3 n3)).setCell ⟨w.heap.size + 1, 0, none⟩ (.int .i64 ino)).setCell ⟨w.heap.size + 1, 1, none⟩ (.int .i64 kind)).setCell ⟨w.heap.size + 1, 2, none⟩ (.int .i64 links)).setCell ⟨w.heap.size + 1, 3, none⟩ (.slice (some ⟨w.heap.size + 1 + 1 + 1, 0, none⟩) n1 n1)).setCell ⟨w.heap.size + 1, 4, none⟩ (.slice (some ⟨G2, 0, none⟩) n2 n2)).setCell ⟨w.heap.size + 1, 5, none⟩ (.slice (some ⟨G3, 0, none⟩) n3 n3)) (w.heap.size + 1 + 1 + 1) n1 n1 data ∧ OwnP 89 (((((((w3.setCell ⟨w.heap.size + 1 + 1, 5, none⟩ (.slice (some ⟨G3, 0, none⟩) n3 n3)).setCell ⟨w.heap.size + 1, 0, none⟩ (.int .i64 ino)).setCell ⟨w.heap.size + 1, 1, none⟩ (.int .i64 kind)).setCell ⟨w.heap.size + 1, 2, none⟩ (.int .i64 links)).setCell ⟨w.heap.size + 1, 3, none⟩ (.slice (some ⟨w.heap.size + 1 + 1 + 1, 0, none⟩) n1 n1)).setCell ⟨w.heap.size + 1, 4, none⟩ (.slice (some ⟨G2, 0, none⟩) n2 n2)).setCell ⟨w.heap.size + 1, 5, none⟩ (.slice (some ⟨G3, 0, none⟩) n3 n3)) G2 n2 n2 (eP ents) ∧ OwnP 75 (((((((w3.setCell ⟨w.heap.size + 1 + 1, 5, none⟩ (.slice (some ⟨G3, 0, none⟩) n3 n3)).setCell ⟨w.heap.size + 1, 0, none⟩ (.int .i64 ino)).setCell ⟨w.heap.size + 1, 1, none⟩ (.int .i64 kind)).setCell ⟨w.heap.size + 1, 2, none⟩ (.int .i64 links)).setCell ⟨w.heap.size + 1, 3, none⟩ (.slice (some ⟨w.heap.size + 1 + 1 + 1, 0, none⟩) n1 n1)).setCell ⟨w.heap.size + 1, 4, none⟩ (.slice (some ⟨G2, 0, none⟩) n2 n2)).setCell ⟨w.heap.size + 1, 5, none⟩ (.slice (some ⟨G3, 0, none⟩) n3 n3)) G3 n3 n3 (aP attrs) ∧ Below w.heap.size w (((((((w3.setCell ⟨w.heap.size + 1 + 1, 5, none⟩ (.slice (some ⟨G3, 0, none⟩) n3 n3)).setCell ⟨w.heap.size + 1, 0, none⟩ (.int .i64 ino)).setCell ⟨w.heap.size + 1, 1, none⟩ (.int .i64 kind)).setCell ⟨w.heap.size + 1, 2, none⟩ (.int .i64 links)).setCell ⟨w.heap.size + 1, 3, none⟩ (.slice (some ⟨w.heap.size + 1 + 1 + 1, 0, none⟩) n1 n1)).setCell ⟨w.heap.size + 1, 4, none⟩ (.slice (some ⟨G2, 0, none⟩) n2 n2)).setCell ⟨w.heap.size + 1, 5, none⟩ (.slice (some ⟨G3, 0, none⟩) n3 n3))) := ⟨P3, E3, A3, BF⟩
  clear zf ga gb P3 E3 A3 BF p3 e3 o3 B3 y1 y2 v0 v1 v2 p2 e2 B2 b3
  go_wp2
  refine bodyPost_ret (v := .agg #[.int .i64 ino, .int .i64 kind, .int .i64 links, .slice (some ⟨w.heap.size + 1 + 1 + 1, 0, none⟩) n1 n1, .slice (some ⟨G2, 0, none⟩) n2 n2, .slice (some ⟨G3, 0, none⟩) n3 n3]) (by simp [results, Tryz.f109, go_sem, d0, d1, d2, d3, d4, d5]) rfl ?_
  obtain ⟨P3, E3, A3, BF⟩ := HF.out
  refine ⟨w.heap.size + 1 + 1 + 1, G2, G3, rfl, by omega, hg12, hg23, ⟨?_, r2, ?_, ?_⟩, BF⟩
  · dsimp only; rw [k1.out]; exact P3
  · dsimp only; rw [k2.out]; exact E3
  · dsimp only; rw [k3.out]; exact A3
end
end Go.Proofs.YtmfimoccemgoiaaGreatDoor
