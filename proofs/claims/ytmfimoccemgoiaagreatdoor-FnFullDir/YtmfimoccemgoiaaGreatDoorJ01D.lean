/-
  Joined: Path, Name, MarkT, Pairs, Inode.
-/
import Derived.Test.YtmfimoccemgoiaaGreatDoorJ00D
import Derived.Lib.Strings
import Derived.Deep.RegionWith
import Derived.Laws.IdiomStrings
import Derived.Deep.Slices
namespace Go.Proofs.YtmfimoccemgoiaaGreatDoor
section
abbrev Str := List UInt8
/-- A sign that a name may have. -/
def sign (c : UInt8) : Bool := (decide (97 ≤ c.toNat) && decide (c.toNat ≤ 122)) || (decide (48 ≤ c.toNat) && decide (c.toNat ≤ 57)) || decide (c.toNat = 95) || decide (c.toNat = 45) || decide (c.toNat = 46)
def nameOk (l : Str) : Bool := decide (1 ≤ l.length) && decide (l.length ≤ 14) && decide (l ≠ [46]) && decide (l ≠ [46, 46]) && l.all sign
theorem sign_slash : sign 47 = false := by decide
theorem nameOk_slash {l : Str} (h : nameOk l = true) : 47 ∉ l := by
  intro hm
  unfold nameOk at h
  simp only [Bool.and_eq_true, List.all_eq_true] at h
  have := h.2 _ hm
  rw [sign_slash] at this
  simp at this
theorem nameOk_ne {l : Str} (h : nameOk l = true) : l ≠ [] := by rintro rfl; simp [nameOk] at h
theorem nameOk_len {l : Str} (h : nameOk l = true) : l.length ≤ 14 := by
  unfold nameOk at h
  simp only [Bool.and_eq_true, decide_eq_true_eq] at h
  exact h.1.1.1.2
/-- What stands between the slashes. -/
def pieces : Str → List Str
  | [] => [[]]
  | c :: r => if c = 47 then [] :: pieces r else match pieces r with
    | [] => [[c]]
    | p :: ps => (c :: p) :: ps
theorem pieces_slash (r : Str) : pieces (47 :: r) = [] :: pieces r := by simp [pieces]
theorem pieces_ne (l : Str) : pieces l ≠ [] := by
  cases l with
  | nil => simp [pieces]
  | cons c r =>
    unfold pieces
    split
    · simp
    · split <;> simp
theorem pieces_hit (b a : Str) (h : 47 ∉ b) : pieces (b ++ 47 :: a) = b :: pieces a := by
  induction b with
  | nil => simp [pieces]
  | cons c b ih =>
    simp only [List.mem_cons, not_or] at h
    have hc : ¬ c = 47 := fun e => h.1 e.symm
    simp only [List.cons_append, pieces, if_neg hc, ih h.2]
theorem pieces_miss (b : Str) (h : 47 ∉ b) : pieces b = [b] := by
  induction b with
  | nil => simp [pieces]
  | cons c b ih =>
    simp only [List.mem_cons, not_or] at h
    have hc : ¬ c = 47 := fun e => h.1 e.symm
    simp only [pieces, if_neg hc, ih h.2]
theorem pieces_join (r : Str) : (pieces r).flatMap (fun p => 47 :: p) = 47 :: r := by
  induction r with
  | nil => simp [pieces]
  | cons c r ih =>
    by_cases hc : c = 47
    · subst hc; rw [pieces_slash, List.flatMap_cons, ih]; rfl
    · simp only [pieces, if_neg hc]
      cases hp : pieces r with
      | nil => exact absurd hp (pieces_ne r)
      | cons p ps =>
        rw [hp] at ih
        simp only [List.flatMap_cons, List.cons_append, List.cons.injEq, true_and] at ih ⊢
        exact ih
theorem pieces_of (z : Str) (zs : List Str) (hz : 47 ∉ z) (h : ∀ x ∈ zs, 47 ∉ x) : pieces (z ++ zs.flatMap (fun p => 47 :: p)) = z :: zs := by
  induction zs generalizing z with
  | nil => simp [pieces_miss z hz]
  | cons y ys ih =>
    simp only [List.flatMap_cons, List.cons_append]
    rw [pieces_hit z _ hz, ih y (h y (by simp)) (fun x hx => h x (by simp [hx]))]
def good (ps : List Str) : Bool := decide (ps.length ≤ 30) && ps.all nameOk
/-- What a path is split into. -/
def splitOf : Str → Option (List Str)
  | [] => none
  | c :: r => if c = 47 then (if r = [] then some [] else if good (pieces r) then some (pieces r) else none) else none
/-- What names are joined to; nothing where they are no path's. -/
def joinOf (zs : List Str) : Str := if zs = [] then [47] else if good zs then zs.flatMap (fun p => 47 :: p) else []
theorem splitOf_cons (c : UInt8) (r : Str) : splitOf (c :: r) = if c = 47 then (if r = [] then some [] else if good (pieces r) then some (pieces r) else none) else none := rfl
theorem split_cases {s : Str} {zs : List Str} (h : splitOf s = some zs) : (s = [47] ∧ zs = []) ∨ ∃ r, s = 47 :: r ∧ r ≠ [] ∧ good (pieces r) = true ∧ zs = pieces r := by
  cases s with
  | nil => simp [splitOf] at h
  | cons c r =>
    rw [splitOf_cons] at h
    by_cases hc : c = 47
    · subst hc
      rw [if_pos rfl] at h
      by_cases hr : r = []
      · subst hr; rw [if_pos rfl] at h; simp only [Option.some.injEq] at h; exact .inl ⟨rfl, h.symm⟩
      · rw [if_neg hr] at h
        by_cases hg : good (pieces r) = true
        · rw [if_pos hg] at h; simp only [Option.some.injEq] at h; exact .inr ⟨r, rfl, hr, hg, h.symm⟩
        · rw [if_neg hg] at h; simp at h
    · rw [if_neg hc] at h; simp at h
theorem split_good {s : Str} {zs : List Str} (h : splitOf s = some zs) : good zs = true := by
  rcases split_cases h with ⟨rfl, rfl⟩ | ⟨r, rfl, _, hg, rfl⟩
  · rfl
  · exact hg
theorem good_len {zs : List Str} (h : good zs = true) : zs.length ≤ 30 := by unfold good at h; simp only [Bool.and_eq_true, decide_eq_true_eq] at h; exact h.1
theorem good_all {zs : List Str} (h : good zs = true) : ∀ z ∈ zs, nameOk z = true := by unfold good at h; simp only [Bool.and_eq_true, List.all_eq_true] at h; exact h.2
theorem good_of {zs : List Str} (h : zs.length ≤ 30) (h2 : ∀ z ∈ zs, nameOk z = true) : good zs = true := by
  unfold good; simp only [Bool.and_eq_true, decide_eq_true_eq, List.all_eq_true]; exact ⟨h, h2⟩
theorem good_prefix {xs zs : List Str} (h : good zs = true) (hp : xs <+: zs) : good xs = true := by
  obtain ⟨t, rfl⟩ := hp
  refine good_of ?_ (fun z hz => good_all h z (by simp [hz]))
  have := good_len h
  simp at this
  omega
theorem join_split {s : Str} {zs : List Str} (h : splitOf s = some zs) : joinOf zs = s := by
  rcases split_cases h with ⟨rfl, rfl⟩ | ⟨r, rfl, _, hg, rfl⟩
  · rfl
  · rw [joinOf, if_neg (pieces_ne r), if_pos hg, pieces_join]
theorem split_join {zs : List Str} (h : joinOf zs ≠ []) : splitOf (joinOf zs) = some zs := by
  cases zs with
  | nil => decide
  | cons z zs =>
    have hg : good (z :: zs) = true := by
      cases hg : good (z :: zs) with
      | true => rfl
      | false => exact absurd (by simp [joinOf, hg]) h
    have ha := good_all hg
    have hp := pieces_of z zs (nameOk_slash (ha z (by simp))) (fun x hx => nameOk_slash (ha x (by simp [hx])))
    rw [joinOf, if_neg (by simp), if_pos hg]
    simp only [List.flatMap_cons, List.cons_append]
    have hne : z ++ zs.flatMap (fun p => 47 :: p) ≠ [] := by
      have := nameOk_ne (ha z (by simp))
      simp [this]
    rw [splitOf_cons, if_pos rfl, if_neg hne, hp, if_pos hg]
theorem spGo_none_or (ps out : List Str) (p : Str) (h : nameOk p = false ∨ out.length = 30) : good (out ++ p :: ps) = false := by
  rw [Bool.eq_false_iff]
  intro hg
  rcases h with h | h
  · have := good_all hg p (by simp)
    rw [h] at this; simp at this
  · have := good_len hg
    simp at this
    omega
/-- A path is below another: its names begin with those. -/
def belowOf (a b : Str) : Bool := match splitOf a, splitOf b with
  | some x, some y => decide (x.length ≤ y.length) && decide (y.take x.length = x)
  | _, _ => false
/-- A path's parent and its last name. -/
def parentOf (s : Str) : Str × Str × Bool := match splitOf s with
  | some zs => if zs = [] then ([], [], false) else (joinOf zs.dropLast, zs.getLastD [], true)
  | none => ([], [], false)
end

section
open Go.RowKit
theorem ret_bool {a b : Bool} (h : a = b) : Ending.returned (.bool a) = .returned (.bool b) := by rw [h]
def signN (v : Nat) : Bool := (decide (97 ≤ v) && decide (v ≤ 122)) || (decide (48 ≤ v) && decide (v ≤ 57)) || decide (v = 95) || decide (v = 45) || decide (v = 46)
set_option maxHeartbeats 400000 in
theorem isNameSign_nat (v : Nat) (w : World) : Calls Tryz.prog 239 #[.int .u8 (v : Int)] w fun e w' => e = .returned (.bool (signN v)) ∧ w' = w := by
  go_enter Tryz.func239, Tryz.ntmps239
  go_wp2
  all_goals go_ret
  all_goals (refine ⟨ret_bool ?_, rfl⟩; unfold signN; (try simp only [beq_iff_eq, beq_eq_false_iff_ne, ne_eq] at *); simp; omega)
theorem isNameSign_any (c : UInt8) (w : World) : Calls Tryz.prog 239 #[.int .u8 (c.toNat : Int)] w fun e w' => e = .returned (.bool (sign c)) ∧ w' = w := isNameSign_nat c.toNat w
/-- The k-th byte of a text. -/
def byt (s : ByteArray) (k : Nat) : UInt8 := s.data.toList.getD k 0
theorem byt_get (s : ByteArray) (k : Nat) (h : k < s.size) : s[k] = byt s k := by
  unfold byt
  have hl : k < s.data.toList.length := by rw [← Lib.size_eq]; exact h
  simp only [List.getD_eq_getElem?_getD, List.getElem?_eq_getElem hl, Option.getD_some]
  rfl
theorem nameOk_iff (l : Str) : nameOk l = true ↔ 1 ≤ l.length ∧ l.length ≤ 14 ∧ l ≠ [46] ∧ l ≠ [46, 46] ∧ l.all sign = true := by
  unfold nameOk
  simp only [Bool.and_eq_true, decide_eq_true_eq, and_assoc]
theorem all_take (l : Str) (k : Nat) (h : k < l.length) (h1 : (l.take k).all sign = true) (h2 : sign (l.getD k 0) = true) : (l.take (k + 1)).all sign = true := by
  rw [List.take_succ_eq_append_getElem h, List.all_append, h1]
  have : l.getD k 0 = l[k] := by simp [h]
  rw [this] at h2
  simp [h2]
theorem all_not (l : Str) (k : Nat) (h : k < l.length) (h2 : sign (l.getD k 0) = false) : l.all sign = false := by
  rw [List.all_eq_false]
  refine ⟨l[k], List.getElem_mem h, ?_⟩
  have : l.getD k 0 = l[k] := by simp [h]
  rw [this] at h2
  simp [h2]
theorem nameOk_false {l : Str} (h : ¬ (1 ≤ l.length ∧ l.length ≤ 14 ∧ l ≠ [46] ∧ l ≠ [46, 46] ∧ l.all sign = true)) : nameOk l = false := by
  rw [Bool.eq_false_iff]; exact fun h' => h ((nameOk_iff l).1 h')
set_option maxHeartbeats 800000 in
theorem nameI (s : ByteArray) (w : World) (hs : s.size ≤ 4000000) : Calls Tryz.prog 188 #[.string s] w fun e w' => e = .returned (.bool (nameOk s.data.toList)) ∧ w' = w := by
  have hsz := Lib.size_eq s
  have htl := Lib.toList_data s
  by_cases h1 : (1 : Int) ≤ (s.size : Int)
  · by_cases h2 : (s.size : Int) ≤ 14
    · by_cases h3 : s.toList = [46]
      · have hf : Hid (nameOk s.data.toList = false) := nameOk_false (by rw [← htl, h3]; simp)
        clear htl hsz
        go_enter Tryz.func188, Tryz.ntmps188
        go_wp2
        go_ret
        exact ⟨ret_bool hf.out.symm, rfl⟩
      · by_cases h4 : s.toList = [46, 46]
        · have hf : Hid (nameOk s.data.toList = false) := nameOk_false (by rw [← htl, h4]; simp)
          clear htl hsz
          go_enter Tryz.func188, Tryz.ntmps188
          go_wp2
          go_ret
          exact ⟨ret_bool hf.out.symm, rfl⟩
        · have hsz' : Hid (s.size = s.data.toList.length) := hsz
          have htl' : Hid (s.toList = s.data.toList) := htl
          have hb3 : (s.toList == [46]) = false := by simpa using h3
          have hb4 : (s.toList == [46, 46]) = false := by simpa using h4
          clear htl hsz
          go_enter Tryz.func188, Tryz.ntmps188
          go_wp2
          go_loop [22] (fun i => ∃ k : Nat, k ≤ s.size ∧ i = .int .i64 k ∧ Hid ((s.data.toList.take k).all sign = true)) (fun i => s.size - (intOf i).toNat)
          case atStart => exact ⟨0, Nat.zero_le _, rfl, rfl⟩
          case round =>
            obtain ⟨k, hk, rfl, hall⟩ := hrel
            by_cases hkn : k < s.size
            · have hki : (k : Int) < (s.size : Int) := by omega
              have hb := byt_get s k hkn
              go_wp2_with fail
              refine (isNameSign_any _ w).mono ?_
              rintro e w1 ⟨rfl, rfl⟩
              cases hsg : sign (byt s k) with
              | true =>
                go_wp2
                go_round
                case rel => exact ⟨k + 1, by omega, by go_num, all_take _ k (by rw [← hsz'.out]; exact hkn) hall.out hsg⟩
                case measure => simp [intOf]; omega
              | false =>
                go_wp2
                go_ret
                refine ⟨ret_bool (nameOk_false ?_).symm, rfl⟩
                have := all_not s.data.toList k (by rw [← hsz'.out]; exact hkn) hsg
                rw [this]; simp
            · have hki : ¬ (k : Int) < (s.size : Int) := by omega
              go_wp2
              go_ret
              refine ⟨ret_bool ?_, rfl⟩
              have hl := hsz'.out
              have ha := hall.out
              rw [List.take_of_length_le (by omega)] at ha
              exact ((nameOk_iff _).2 ⟨by omega, by omega, by rw [← htl'.out]; exact h3, by rw [← htl'.out]; exact h4, ha⟩).symm
    · have hf : Hid (nameOk s.data.toList = false) := nameOk_false (by rw [← hsz]; omega)
      clear htl hsz
      go_enter Tryz.func188, Tryz.ntmps188
      go_wp2
      go_ret
      exact ⟨ret_bool hf.out.symm, rfl⟩
  · have hf : Hid (nameOk s.data.toList = false) := nameOk_false (by rw [← hsz]; omega)
    clear htl hsz
    go_enter Tryz.func188, Tryz.ntmps188
    go_wp2
    go_ret
    exact ⟨ret_bool hf.out.symm, rfl⟩
end

section
open Go.RowKit
/-- The digits of a number ahead of what is there, fuel f. -/
def mtL : Nat → Nat → Str → Str
  | 0, _, acc => acc
  | f + 1, k, acc => if k = 0 then acc else mtL f (k / 10) ((48 + k % 10).toUInt8 :: acc)
/-- The mark of a number. -/
def mt (k : Nat) : ByteArray := ⟨(109 :: mtL 7 k []).toArray⟩
end

section
open Go.RowKit
abbrev VP := Value × Value
/-- The cells of pairs. -/
def pv (ps : List VP) : List Value := ps.flatMap fun p => [p.1, p.2]
theorem pv_length (ps : List VP) : (pv ps).length = ps.length * 2 := by
  induction ps with
  | nil => rfl
  | cons p ps ih => simp only [pv, List.flatMap_cons, List.length_append, List.length_cons, List.length_nil] at ih ⊢; omega
theorem pv_append (ps qs : List VP) : pv (ps ++ qs) = pv ps ++ pv qs := by simp [pv]
theorem pv_at (ps : List VP) (i : Nat) (h : i < ps.length) : (pv ps)[i * 2]? = some (ps.getD i (undef, undef)).1 ∧ (pv ps)[i * 2 + 1]? = some (ps.getD i (undef, undef)).2 := by
  induction ps generalizing i with
  | nil => simp at h
  | cons p ps ih =>
    cases i with
    | zero => simp [pv]
    | succ i =>
      have hi := ih i (by simpa using h)
      have e : (i + 1) * 2 = i * 2 + 2 := by omega
      simp only [pv, List.flatMap_cons, List.cons_append, List.nil_append] at hi ⊢
      rw [e]
      simp only [List.getElem?_cons_succ, List.getD_cons_succ]
      exact hi
theorem pv_set (ps : List VP) (i : Nat) (p : VP) (h : i < ps.length) : ((pv ps).set (i * 2) p.1).set (i * 2 + 1) p.2 = pv (ps.set i p) := by
  induction ps generalizing i with
  | nil => simp at h
  | cons q ps ih =>
    cases i with
    | zero => simp [pv]
    | succ i =>
      have hi := ih i (by simpa using h)
      have e : (i + 1) * 2 = i * 2 + 2 := by omega
      simp only [pv, List.flatMap_cons, List.cons_append, List.nil_append, List.set_cons_succ] at hi ⊢
      rw [e]
      simp only [List.set_cons_succ, hi]
/-- The pairs can be read from the address a on. -/
def RdP (w : World) (a : Option Addr) (ps : List VP) : Prop :=
  ps = [] ∨ ∃ b off, a = some ⟨b, off, none⟩ ∧ ∀ i, i < ps.length → w.cell? ⟨b, off + i * 2, none⟩ = some (ps.getD i (undef, undef)).1 ∧ w.cell? ⟨b, off + i * 2 + 1, none⟩ = some (ps.getD i (undef, undef)).2
theorem RdP.lt {w : World} {a : Option Addr} {ps : List VP} (h : RdP w a ps) (hz : ps ≠ []) : ∃ b off, a = some ⟨b, off, none⟩ ∧ b < w.heap.size ∧ ∀ i, i < ps.length → w.cell? ⟨b, off + i * 2, none⟩ = some (ps.getD i (undef, undef)).1 ∧ w.cell? ⟨b, off + i * 2 + 1, none⟩ = some (ps.getD i (undef, undef)).2 := by
  rcases h with h | ⟨b, off, rfl, hc⟩
  · exact absurd h hz
  · exact ⟨b, off, rfl, World.block_lt_of_cell? w _ (hc 0 (List.length_pos_iff.2 hz)).1, hc⟩
theorem RdP.keep {w w' : World} {a : Option Addr} {ps : List VP} (h : RdP w a ps) (hb : Below w.heap.size w w') : RdP w' a ps := by
  by_cases hz : ps = []
  · exact .inl hz
  · obtain ⟨b, off, rfl, hlt, hc⟩ := h.lt hz
    refine .inr ⟨b, off, rfl, fun i hi => ?_⟩
    rw [hb.cell (p := ⟨b, off + i * 2, none⟩) hlt, hb.cell (p := ⟨b, off + i * 2 + 1, none⟩) hlt]
    exact hc i hi
/-- The block g is the call's own row of pairs of type e. -/
def OwnP (e : TypeId) (w : World) (g n cap : Nat) (ps : List VP) : Prop := w.ownsRow 0 e 2 (.slice (some ⟨g, 0, none⟩) n cap) n (pv ps)
theorem OwnP.len {e : TypeId} {w : World} {g n cap : Nat} {ps : List VP} (h : OwnP e w g n cap ps) : ps.length = n := by
  have := h.1
  rw [pv_length] at this
  omega
theorem OwnP.lt {e : TypeId} {w : World} {g n cap : Nat} {ps : List VP} (h : OwnP e w g n cap ps) : g < w.heap.size := (World.ownsRow.lt h g rfl).2
theorem OwnP.keep {e : TypeId} {w w' : World} {g n cap : Nat} {ps : List VP} (h : OwnP e w g n cap ps) (hb : Below w.heap.size w w') : OwnP e w' g n cap ps := by
  refine ⟨h.1, ?_⟩
  rcases h.2 with h' | ⟨g', cap', cur, h', hb', hgg, rest⟩
  · exact .inl h'
  · exact .inr ⟨g', cap', cur, h', hb', (hb.block g' (Array.getElem?_eq_some_iff.1 hgg).1).trans hgg, rest⟩
theorem OwnP.kept {e : TypeId} {w w' : World} {g n c g2 : Nat} {ps : List VP} (h : OwnP e w g n c ps) (hg : w.grownBy w' (some g2)) (hne : g ≠ g2) : OwnP e w' g n c ps :=
  World.ownsRow.kept h hg (.inr (by simp [Value.ownBlock, hne]))
theorem add_at (g j : Nat) : (⟨g, 0, none⟩ : Addr).add j = ⟨g, j, none⟩ := by
  unfold Addr.add
  split
  · rename_i h; rw [h]
  · simp
theorem OwnP.cells {e : TypeId} {w : World} {g n cap : Nat} {ps : List VP} (h : OwnP e w g n cap ps) (i : Nat) (hi : i < n) : w.cell? ⟨g, i * 2, none⟩ = some (ps.getD i (undef, undef)).1 ∧ w.cell? ⟨g, i * 2 + 1, none⟩ = some (ps.getD i (undef, undef)).2 := by
  obtain ⟨h1, h2⟩ := pv_at ps i (by rw [h.len]; exact hi)
  have k1 := World.ownsRow.cells h (g := g) rfl (i * 2) _ h1
  have k2 := World.ownsRow.cells h (g := g) rfl (i * 2 + 1) _ h2
  rw [add_at] at k1 k2
  exact ⟨k1, k2⟩
theorem OwnP.rd {e : TypeId} {w : World} {g n cap : Nat} {ps : List VP} (h : OwnP e w g n cap ps) : RdP w (some ⟨g, 0, none⟩) ps := by
  refine .inr ⟨g, 0, rfl, fun i hi => ?_⟩
  have := h.cells i (by rw [← h.len]; exact hi)
  simpa using this
theorem ownP_stored {e : TypeId} {w : World} {g n cap : Nat} {ps : List VP} (h : OwnP e w g n cap ps) (k : Nat) (hk : k < n) (p : VP) : OwnP e ((w.setCell ⟨g, k * 2, none⟩ p.1).setCell ⟨g, k * 2 + 1, none⟩ p.2) g n cap (ps.set k p) := by
  have h1 := (World.ownsRow.stored h (k * 2) p.1).1
  have h2 := (World.ownsRow.stored h1 (k * 2 + 1) p.2).1
  unfold OwnP
  rw [pv_set ps k p (by rw [h.len]; exact hk)] at h2
  exact h2
theorem OwnP.frozen {e : TypeId} {w : World} {g n cap : Nat} {ps : List VP} (h : OwnP e w g n cap ps) (i : Nat) : w.frozen? ⟨g, i, none⟩ = false := World.ownsRow.frozenAt h i
theorem Tryz.infoEnt : (Tryz.prog.info? 89).map (fun i => (i.zero, i.size, i.bytes)) = some (some (.agg #[.string ⟨#[]⟩, .int .i64 0]), 2, 24) := by kernel_rfl
theorem Tryz.infoAttr : (Tryz.prog.info? 75).map (fun i => (i.zero, i.size, i.bytes)) = some (some (.agg #[.string ⟨#[]⟩, .string ⟨#[]⟩]), 2, 32) := by kernel_rfl
/-- Entries, as cells. -/
def eP (es : List (ByteArray × Int)) : List VP := es.map fun e => (.string e.1, .int .i64 e.2)
theorem eP_length (es : List (ByteArray × Int)) : (eP es).length = es.length := by simp [eP]
theorem eP_at (es : List (ByteArray × Int)) (i : Nat) (h : i < es.length) : (eP es).getD i (undef, undef) = (.string es[i].1, .int .i64 es[i].2) := by simp [eP, h]
/-- Attributes, as cells. -/
def aP (es : List (ByteArray × ByteArray)) : List VP := es.map fun e => (.string e.1, .string e.2)
theorem aP_length (es : List (ByteArray × ByteArray)) : (aP es).length = es.length := by simp [aP]
theorem aP_at (es : List (ByteArray × ByteArray)) (i : Nat) (h : i < es.length) : (aP es).getD i (undef, undef) = (.string es[i].1, .string es[i].2) := by simp [aP, h]
/-- Block B holds the cells vs, of type t. -/
def Blk (W : World) (B : Nat) (t : TypeId) (vs : Array Value) : Prop := W.heap[B]? = some (.cells vs t (0, 0))
theorem Blk.lt {W : World} {B : Nat} {t : TypeId} {vs : Array Value} (h : Blk W B t vs) : B < W.heap.size := (Array.getElem?_eq_some_iff.1 h).1
theorem Blk.cell {W : World} {B : Nat} {t : TypeId} {vs : Array Value} (h : Blk W B t vs) (j : Nat) : W.cell? ⟨B, j, none⟩ = vs[j]? := cell_of_row W B j vs t (0, 0) h
theorem Blk.frozen {W : World} {B : Nat} {t : TypeId} {vs : Array Value} (h : Blk W B t vs) (j : Nat) : W.frozen? ⟨B, j, none⟩ = false := frozen_of_row W B j vs t h
theorem Blk.new (W : World) (t : TypeId) (vs : Array Value) : Blk (W.alloc (.cells vs t)) W.heap.size t vs := heap_alloc_new W _
theorem Blk.keep {W W' : World} {B : Nat} {t : TypeId} {vs : Array Value} (h : Blk W B t vs) (hb : Below W.heap.size W W') : Blk W' B t vs := (hb.block B h.lt).trans h
theorem Blk.alloc {W : World} {B : Nat} {t : TypeId} {vs : Array Value} (h : Blk W B t vs) (o : Obj) : Blk (W.alloc o) B t vs := h.keep ((Below.refl _ W).alloc (Nat.le_refl _) o)
theorem Blk.set {W : World} {B : Nat} {t : TypeId} {vs : Array Value} (h : Blk W B t vs) (j : Nat) (v : Value) : Blk (W.setCell ⟨B, j, none⟩ v) B t (vs.setIfInBounds j v) := heap_setCell_same W B j vs t v h
theorem Blk.other {W : World} {B : Nat} {t : TypeId} {vs : Array Value} (h : Blk W B t vs) {B' : Nat} (hne : B ≠ B') (j : Nat) (v : Value) : Blk (W.setCell ⟨B', j, none⟩ v) B t vs := (heap_setCell_other W ⟨B', j, none⟩ B v hne).trans h
theorem Blk.kept {W W' : World} {B g : Nat} {t : TypeId} {vs : Array Value} (h : Blk W B t vs) (hg : W.grownBy W' (some g)) (hne : B ≠ g) : Blk W' B t vs := (hg.block B h.lt (by simpa using hne)).trans h
end

section
open Go.RowKit
/-- What an inode tells. -/
structure InoD where
  ino : Int
  kind : Int
  links : Int
  data : List Int
  ents : List (ByteArray × Int)
  attrs : List (ByteArray × ByteArray)
/-- An inode as a value: the slices lead to a1, a2, a3. -/
def inoV (D : InoD) (a1 : Option Addr) (c1 : Nat) (a2 : Option Addr) (c2 : Nat) (a3 : Option Addr) (c3 : Nat) : Value :=
  .agg #[.int .i64 D.ino, .int .i64 D.kind, .int .i64 D.links, .slice a1 D.data.length c1, .slice a2 D.ents.length c2, .slice a3 D.attrs.length c3]
/-- The inode's lists can be read. -/
structure InoRd (w : World) (D : InoD) (a1 a2 a3 : Option Addr) : Prop where
  data : Rd w a1 D.data
  byt : Byt D.data
  ents : RdP w a2 (eP D.ents)
  attrs : RdP w a3 (aP D.attrs)
theorem InoRd.keep {w w' : World} {D : InoD} {a1 a2 a3 : Option Addr} (h : InoRd w D a1 a2 a3) (hb : Below w.heap.size w w') : InoRd w' D a1 a2 a3 :=
  ⟨h.data.keep hb, h.byt, h.ents.keep hb, h.attrs.keep hb⟩
/-- The inode's lists are rows of the call's own. -/
structure InoOwn (w : World) (D : InoD) (g1 c1 g2 c2 g3 c3 : Nat) : Prop where
  data : Own w g1 D.data.length c1 D.data
  byt : Byt D.data
  ents : OwnP 89 w g2 D.ents.length c2 (eP D.ents)
  attrs : OwnP 75 w g3 D.attrs.length c3 (aP D.attrs)
theorem InoOwn.rd {w : World} {D : InoD} {g1 c1 g2 c2 g3 c3 : Nat} (h : InoOwn w D g1 c1 g2 c2 g3 c3) : InoRd w D (some ⟨g1, 0, none⟩) (some ⟨g2, 0, none⟩) (some ⟨g3, 0, none⟩) :=
  ⟨h.data.rd, h.byt, h.ents.rd, h.attrs.rd⟩
theorem InoOwn.keep {w w' : World} {D : InoD} {g1 c1 g2 c2 g3 c3 : Nat} (h : InoOwn w D g1 c1 g2 c2 g3 c3) (hb : Below w.heap.size w w') : InoOwn w' D g1 c1 g2 c2 g3 c3 :=
  ⟨h.data.keep hb h.data.lt, h.byt, h.ents.keep hb, h.attrs.keep hb⟩
theorem size_setC (w : World) (a : Addr) (v : Value) : (w.setCell a v).heap.size = w.heap.size := by simp [World.setCell]
theorem gr_setC (w : World) (gc j : Nat) (v : Value) : w.grownBy (w.setCell ⟨gc, j, none⟩ v) (some gc) :=
  ⟨rfl, rfl, rfl, by simp [World.setCell], fun k _ hk => heap_setCell_other w ⟨gc, j, none⟩ k v (fun e => hk (by simp [e]))⟩
end
end Go.Proofs.YtmfimoccemgoiaaGreatDoor
