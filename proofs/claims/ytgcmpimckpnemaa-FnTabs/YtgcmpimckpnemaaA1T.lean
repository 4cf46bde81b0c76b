/-
  Joined: Base, Crc, Get, Put, Mark, Path, Name, MarkT, CloneT.
-/
import Derived.Test.YtgcmpimckpnemaaRows
import Derived.WalkKit
import Derived.WalkSpells
import Derived.WalkLawsBesides
import Derived.Deep.QuietTactic
import Derived.BigQuiet
import Derived.OpenShut
import Derived.Laws.BitsAllLaws
import Derived.Maps.AppendAt
import Derived.Lib.SliceRun
import Derived.Lib.Strings
import Derived.Deep.RegionWith
import Derived.Laws.IdiomStrings
import Derived.Lib.Slices
import Derived.Lib.Walk
import Derived.Lib.Bytealg
import Derived.Lib.IndexLaws
import Derived.Lib.BufferWrite
import Derived.Lib.UnsafeStr
import Derived.Laws.MakeOwn
import Derived.Laws.Strings3
namespace Go.Proofs.Ytgcmpimckpnemaa
section
open Go.RowKit
theorem Try.info5 : (Try.prog.info? 5).map (fun i => (i.zero, i.size, i.bytes)) = some (some (.int .u8 0), 1, 1) := by kernel_rfl
/-- The bytes zs can be read from the address a on. -/
def Rd (w : World) (a : Option Addr) (zs : List Int) : Prop :=
  zs = [] ∨ ∃ b off, a = some ⟨b, off, none⟩ ∧ ∀ i, i < zs.length → w.cell? ⟨b, off + i, none⟩ = some (.int .u8 (zs.getD i 0))
def Byt (zs : List Int) : Prop := ∀ z ∈ zs, 0 ≤ z ∧ z ≤ 255
/-- The block g is the call's own row, of whose cells the first are the bytes zs. -/
def Own (w : World) (g n cap : Nat) (zs : List Int) : Prop := w.ownsRow 0 5 1 (.slice (some ⟨g, 0, none⟩) n cap) n (zs.map (Value.int .u8))
theorem Rd.below {w w' : World} {B : Nat} {a : Option Addr} {zs : List Int} (h : Rd w a zs) (hb : Below B w w') (hB : ∀ b off, a = some ⟨b, off, none⟩ → b < B) : Rd w' a zs := by
  rcases h with h | ⟨b, off, rfl, hc⟩
  · exact .inl h
  · refine .inr ⟨b, off, rfl, fun i hi => ?_⟩
    rw [hb.cell (p := ⟨b, off + i, none⟩) (hB b off rfl)]
    exact hc i hi
theorem Rd.lt {w : World} {a : Option Addr} {zs : List Int} (h : Rd w a zs) (hz : zs ≠ []) : ∃ b off, a = some ⟨b, off, none⟩ ∧ b < w.heap.size ∧ ∀ i, i < zs.length → w.cell? ⟨b, off + i, none⟩ = some (.int .u8 (zs.getD i 0)) := by
  rcases h with h | ⟨b, off, rfl, hc⟩
  · exact absurd h hz
  · refine ⟨b, off, rfl, ?_, hc⟩
    have := hc 0 (List.length_pos_iff.2 hz)
    exact World.block_lt_of_cell? w _ this
theorem Rd.keep {w w' : World} {a : Option Addr} {zs : List Int} (h : Rd w a zs) (hb : Below w.heap.size w w') : Rd w' a zs := by
  by_cases hz : zs = []
  · exact .inl hz
  · obtain ⟨b, off, rfl, hlt, hc⟩ := h.lt hz
    refine .inr ⟨b, off, rfl, fun i hi => ?_⟩
    rw [hb.cell (p := ⟨b, off + i, none⟩) hlt]
    exact hc i hi
theorem Own.len {w : World} {g n cap : Nat} {zs : List Int} (h : Own w g n cap zs) : zs.length = n := by simpa using h.1
theorem Own.rd {w : World} {g n cap : Nat} {zs : List Int} (h : Own w g n cap zs) : Rd w (some ⟨g, 0, none⟩) zs := by
  refine .inr ⟨g, 0, rfl, fun i hi => ?_⟩
  have hn := h.len
  have := World.ownsRow.cellAt h i (by omega)
  rw [Nat.zero_add, this]
  simp [hi]
theorem Own.keep {w w' : World} {g n cap B : Nat} {zs : List Int} (h : Own w g n cap zs) (hb : Below B w w') (hg : g < B) : Own w' g n cap zs := by
  refine ⟨h.1, ?_⟩
  rcases h.2 with ⟨h', _⟩ | ⟨g', cap', cur, h', hb', hgg, rest⟩
  · simp at h'
  · refine .inr ⟨g', cap', cur, h', hb', ?_, rest⟩
    simp only [Value.slice.injEq, Option.some.injEq, Addr.mk.injEq, and_true, true_and] at h'
    obtain ⟨rfl, rfl⟩ := h'
    rw [hb.block g hg]; exact hgg
theorem Own.lt {w : World} {g n cap : Nat} {zs : List Int} (h : Own w g n cap zs) : g < w.heap.size := (World.ownsRow.lt h g rfl).2
/-- What the frame tells of a slice of bytes that came in, as Rd. -/
theorem rd_of_row {w : World} {a : Option Addr} {len cap : Nat} {zs : List Int}
    (h : (a = none ∧ len = 0 ∧ cap = 0 ∧ zs = []) ∨ ∃ x, a = some x ∧ len ≤ cap ∧ cap ≤ maxLen ∧ zs.length = cap ∧ (∀ i, i < zs.length → w.cell? (x.add i) = some (.int .u8 (zs.getD i 0))) ∧ ∀ n ∈ zs, (Lit.int .u8 n).wf = true) :
    ∃ ys, ys.length = len ∧ Rd w a ys ∧ Byt ys := by
  rcases h with ⟨rfl, rfl, rfl, rfl⟩ | ⟨x, rfl, hl, hm, hz, hcell, hwz⟩
  · exact ⟨[], rfl, .inl rfl, fun z hz => by simp at hz⟩
  · refine ⟨zs.take len, by simp; omega, ?_, fun z hz => ?_⟩
    · by_cases h0 : len = 0
      · subst h0; exact .inl (by simp)
      · obtain ⟨b, off, spot⟩ := x
        have hc := hcell 0 (by omega)
        have hspot : spot = none := by simpa [Addr.add] using World.cell?_spot hc
        subst hspot
        refine .inr ⟨b, off, rfl, fun i hi => ?_⟩
        simp only [List.length_take] at hi
        have := hcell i (by omega)
        have e : (⟨b, off, none⟩ : Addr).add i = ⟨b, off + i, none⟩ := by simp [Addr.add]
        rw [e] at this
        rw [this]
        have hi' : i < len := by omega
        simp [hi']
    · have h1 := hwz z (List.mem_of_mem_take hz)
      have := bounds_u8 h1
      omega
end

section
open Go.RowKit
theorem getD_byt {zs : List Int} (hb : Byt zs) (k : Nat) : 0 ≤ zs[k]?.getD 0 ∧ zs[k]?.getD 0 ≤ 255 := by
  by_cases h : k < zs.length
  · rw [List.getElem?_eq_getElem h]; exact hb _ (List.getElem_mem h)
  · rw [List.getElem?_eq_none (by omega)]; simp
theorem Byt.take {zs : List Int} (hb : Byt zs) (k : Nat) : Byt (zs.take k) := fun z hz => hb z (List.mem_of_mem_take hz)
theorem ret_int {k : IntKind} {a b : Int} (h : a = b) : Ending.returned (.int k a) = .returned (.int k b) := by rw [h]
theorem byt_at {zs : List Int} (hb : Byt zs) (k : Nat) : ∃ Z : Nat, zs.getD k 0 = (Z : Int) ∧ Z ≤ 255 := by
  have := getD_byt hb k
  refine ⟨(zs.getD k 0).toNat, ?_, ?_⟩ <;> simp <;> omega
end

section
open Go.RowKit
def gnGo (zs : List Int) (p : Nat) : Nat → Nat → Nat → (Nat × Nat × Bool)
  | 0, _, _ => (0, 0, false)
  | f + 1, k, acc =>
    if p + k < zs.length then
      if 128 ≤ (zs.getD (p + k) 0).toNat then gnGo zs p f (k + 1) (acc + (zs.getD (p + k) 0).toNat % 128 * 128 ^ k)
      else if (0 < k ∧ (zs.getD (p + k) 0).toNat = 0) ∨ 1000000 < acc + (zs.getD (p + k) 0).toNat % 128 * 128 ^ k then (0, 0, false)
      else (acc + (zs.getD (p + k) 0).toNat % 128 * 128 ^ k, p + k + 1, true)
    else (0, 0, false)
def gn (zs : List Int) (at' : Int) : Nat × Nat × Bool := if at' < 0 ∨ (zs.length : Int) ≤ at' then (0, 0, false) else gnGo zs at'.toNat 3 0 0
end

section
open Go.RowKit
/-- An append onto a row of the call's own, the new slice written out. -/
theorem wpList_app (w : World) {ops : Array Oper} {rest : List Oper} {o : Oper} {a : Act} {Q : Exit → Act → World → Prop} (hgd : o.guard = none) (s x : Operand)
    (ho : o.op = .call { callee := .builtin .append, args := #[s, x], argTypes := #[22, 22] })
    (g n c : Nat) (zs : List Int) (hs : a.eval s = .slice (some ⟨g, 0, none⟩) n c) (hown : Own w g n c zs)
    (ad : Addr) (m c' : Nat) (ys : List Int) (hx : a.eval x = .slice (some ad) m c') (hl : ys.length = m)
    (hnews : ∀ j, j < m → w.cell? (ad.add j) = some (.int .u8 (ys.getD j 0))) (hb : n + m ≤ 8000000) (H : Nat) (hH : w.heap.size = H)
    (h : ∀ g' cap' w', Own w' g' (n + m) cap' (zs ++ ys) → w.grownBy w' (some g) → (g' = g ∨ g' = H) → wpList Try.prog ops Q rest (a.put o.dst (.slice (some ⟨g', 0, none⟩) (n + m) cap')) w') :
    wpList Try.prog ops Q (o :: rest) a w := by
  obtain ⟨i0, hi, hz0, hz1, hz2⟩ := info_parts Try.info5
  refine wpList_append_own_at w hgd s x 22 ho 0 5 i0 (.int .u8 0) 1 1 Try.underlying22 hi hz0 hz1 hz2 rfl (by decide) _ n (zs.map (Value.int .u8)) hs hown ad m c' (ys.map (Value.int .u8)) hx (by simp [hl]) ?_ ?_ (by unfold maxLen; omega) (by omega) (Nat.zero_le _) ?_
  · intro j u hj
    simp only [List.getElem?_map] at hj
    by_cases hjm : j < m
    · rw [hnews j hjm]
      rw [List.getElem?_eq_getElem (by omega)] at hj
      simpa [List.getElem?_eq_getElem (show j < ys.length by omega)] using hj
    · rw [List.getElem?_eq_none (by omega)] at hj
      simp at hj
  · intro u hu
    simp only [List.mem_map] at hu
    obtain ⟨z, _, rfl⟩ := hu
    rfl
  · intro v' w' h1 h2 h3 h4
    have h1' := h1
    rcases h1.2 with ⟨e, _⟩ | ⟨g', cap', cur, e, _⟩
    · exact absurd (h3.1 e).1 (by simp)
    · subst e
      refine h g' cap' w' ?_ h2 ?_
      · unfold Own; rw [List.map_append]; exact h1'
      · rcases h4 with h4 | h4
        · left; simpa [Value.ownBlock] using h4
        · right; rw [← hH]; simpa [Value.ownBlock] using h4
theorem own_empty (w : World) : Own (w.alloc (.cells #[] 5)) w.heap.size 0 0 [] := by
  exact World.ownsRow_made (base := 0) (e := 5) (size := 1) w #[] 0 (Nat.zero_le _) (by unfold maxLen; omega) rfl
theorem Rd.news {w : World} {ad : Addr} {zs : List Int} {m : Nat} (h : Rd w (some ad) zs) (hl : zs.length = m) : ∀ j, j < m → w.cell? (ad.add j) = some (.int .u8 (zs.getD j 0)) := by
  intro j hj
  rcases h with h | ⟨b, off, e, hc⟩
  · subst h; simp at hl; omega
  · obtain rfl : ad = ⟨b, off, none⟩ := by simpa using e
    have e' : (⟨b, off, none⟩ : Addr).add j = ⟨b, off + j, none⟩ := by simp [Addr.add]
    rw [e']; exact hc j (by omega)
theorem one_news (w : World) (z : Int) : ∀ j, j < 1 → (w.alloc (.cells #[.int .u8 z] 5)).cell? ((⟨w.heap.size, 0, none⟩ : Addr).add j) = some (.int .u8 ([z].getD j 0)) := by
  intro j hj
  obtain rfl : j = 0 := by omega
  exact cell_one_new w (.int .u8 z) 5 0 _ rfl
end

section
open Go.RowKit
theorem Own.kept {w w' : World} {g n c g2 : Nat} {zs : List Int} (h : Own w g n c zs) (hg : w.grownBy w' (some g2)) (hne : g ≠ g2) : Own w' g n c zs :=
  World.ownsRow.kept h hg (.inr (by simp [Value.ownBlock, hne]))
end

section
abbrev Str := List UInt8
/-- A sign that a name may have. -/
def sign (c : UInt8) : Bool := (decide (97 ≤ c.toNat) && decide (c.toNat ≤ 122)) || (decide (48 ≤ c.toNat) && decide (c.toNat ≤ 57)) || decide (c.toNat = 95) || decide (c.toNat = 45) || decide (c.toNat = 46)
def nameOk (l : Str) : Bool := decide (1 ≤ l.length) && decide (l.length ≤ 14) && decide (l ≠ [46]) && decide (l ≠ [46, 46]) && l.all sign
theorem nameOk_len {l : Str} (h : nameOk l = true) : l.length ≤ 14 := by
  unfold nameOk at h
  simp only [Bool.and_eq_true, decide_eq_true_eq] at h
  exact h.1.1.1.2
/-- What stands between the slashes. -/
def pieces : Str → List Str
  | [] => [[]]
  | c :: r => if c = 47 then [] :: pieces r else match pieces r with
    | [] => [[c]]
    | p :: ps => (c :: p) :: ps
theorem pieces_hit (b a : Str) (h : 47 ∉ b) : pieces (b ++ 47 :: a) = b :: pieces a := by
  induction b with
  | nil => simp [pieces]
  | cons c b ih =>
    simp only [List.mem_cons, not_or] at h
    have hc : ¬ c = 47 := fun e => h.1 e.symm
    simp only [List.cons_append, pieces, if_neg hc, ih h.2]
theorem pieces_miss (b : Str) (h : 47 ∉ b) : pieces b = [b] := by
  induction b with
  | nil => simp [pieces]
  | cons c b ih =>
    simp only [List.mem_cons, not_or] at h
    have hc : ¬ c = 47 := fun e => h.1 e.symm
    simp only [pieces, if_neg hc, ih h.2]
def good (ps : List Str) : Bool := decide (ps.length ≤ 30) && ps.all nameOk
/-- What a path is split into. -/
def splitOf : Str → Option (List Str)
  | [] => none
  | c :: r => if c = 47 then (if r = [] then some [] else if good (pieces r) then some (pieces r) else none) else none
/-- What names are joined to; nothing where they are no path's. -/
def joinOf (zs : List Str) : Str := if zs = [] then [47] else if good zs then zs.flatMap (fun p => 47 :: p) else []
theorem splitOf_cons (c : UInt8) (r : Str) : splitOf (c :: r) = if c = 47 then (if r = [] then some [] else if good (pieces r) then some (pieces r) else none) else none := rfl
theorem split_cases {s : Str} {zs : List Str} (h : splitOf s = some zs) : (s = [47] ∧ zs = []) ∨ ∃ r, s = 47 :: r ∧ r ≠ [] ∧ good (pieces r) = true ∧ zs = pieces r := by
  cases s with
  | nil => simp [splitOf] at h
  | cons c r =>
    rw [splitOf_cons] at h
    by_cases hc : c = 47
    · subst hc
      rw [if_pos rfl] at h
      by_cases hr : r = []
      · subst hr; rw [if_pos rfl] at h; simp only [Option.some.injEq] at h; exact .inl ⟨rfl, h.symm⟩
      · rw [if_neg hr] at h
        by_cases hg : good (pieces r) = true
        · rw [if_pos hg] at h; simp only [Option.some.injEq] at h; exact .inr ⟨r, rfl, hr, hg, h.symm⟩
        · rw [if_neg hg] at h; simp at h
    · rw [if_neg hc] at h; simp at h
theorem split_good {s : Str} {zs : List Str} (h : splitOf s = some zs) : good zs = true := by
  rcases split_cases h with ⟨rfl, rfl⟩ | ⟨r, rfl, _, hg, rfl⟩
  · rfl
  · exact hg
theorem good_len {zs : List Str} (h : good zs = true) : zs.length ≤ 30 := by unfold good at h; simp only [Bool.and_eq_true, decide_eq_true_eq] at h; exact h.1
theorem good_all {zs : List Str} (h : good zs = true) : ∀ z ∈ zs, nameOk z = true := by unfold good at h; simp only [Bool.and_eq_true, List.all_eq_true] at h; exact h.2
theorem good_of {zs : List Str} (h : zs.length ≤ 30) (h2 : ∀ z ∈ zs, nameOk z = true) : good zs = true := by
  unfold good; simp only [Bool.and_eq_true, decide_eq_true_eq, List.all_eq_true]; exact ⟨h, h2⟩
theorem good_prefix {xs zs : List Str} (h : good zs = true) (hp : xs <+: zs) : good xs = true := by
  obtain ⟨t, rfl⟩ := hp
  refine good_of ?_ (fun z hz => good_all h z (by simp [hz]))
  have := good_len h
  simp at this
  omega
/-- The specification's loop: so many rounds are left, the next index, where the name began, the names so far. -/
def spGo (s : Str) : Nat → Nat → Nat → List Str → Option (List Str)
  | 0, _, _, out => some out
  | f + 1, i, b, out => if i < s.length ∧ s.getD i 0 ≠ 47 then spGo s f (i + 1) b out else
      if i = 0 then spGo s f (i + 1) (i + 1) out else
      if nameOk ((s.take i).drop b) = false ∨ out.length = 30 then none else spGo s f (i + 1) (i + 1) (out ++ [(s.take i).drop b])
theorem spGo_none_or (ps out : List Str) (p : Str) (h : nameOk p = false ∨ out.length = 30) : good (out ++ p :: ps) = false := by
  rw [Bool.eq_false_iff]
  intro hg
  rcases h with h | h
  · have := good_all hg p (by simp)
    rw [h] at this; simp at this
  · have := good_len hg
    simp at this
    omega
theorem drop_piece (s : Str) (i b : Nat) (hb : b ≤ i) (hi : i < s.length) (hs : s.getD i 0 = 47) : s.drop b = (s.take i).drop b ++ 47 :: s.drop (i + 1) := by
  have e1 : s = s.take i ++ 47 :: s.drop (i + 1) := by
    have h1 := List.take_append_drop i s
    rw [List.drop_eq_getElem_cons hi] at h1
    have h2 : s[i] = 47 := by simpa [hi] using hs
    rw [h2] at h1
    exact h1.symm
  have hl : (s.take i).length = i := by simp; omega
  generalize hx : s.take i = x at *
  generalize hy : s.drop (i + 1) = y at *
  rw [e1, List.drop_append_of_le_length (by omega)]
theorem spGo_eq (s : Str) : ∀ (f i b : Nat) (out : List Str), f = s.length + 1 - i → 1 ≤ i → i ≤ s.length → b ≤ i → 47 ∉ (s.take i).drop b → (∀ z ∈ out, nameOk z = true) → out.length ≤ 30 →
    spGo s f i b out = if good (out ++ pieces (s.drop b)) then some (out ++ pieces (s.drop b)) else none := by
  intro f
  induction f with
  | zero => intro i b out hf h1 h2; omega
  | succ f ih =>
    intro i b out hf h1 h2 h3 h4 h5 h6
    unfold spGo
    by_cases hi : i < s.length
    · by_cases hs : s.getD i 0 = 47
      · rw [if_neg (by intro h; exact h.2 hs), if_neg (by omega)]
        have hd := drop_piece s i b h3 hi hs
        have hp := pieces_hit _ (s.drop (i + 1)) h4
        rw [← hd] at hp
        rw [hp]
        split
        · rename_i hbad
          rw [spGo_none_or _ _ _ hbad]
          rfl
        · rename_i hok
          have hn : nameOk ((s.take i).drop b) = true := by
            cases h : nameOk ((s.take i).drop b) with
            | true => rfl
            | false => exact absurd (.inl h) hok
          have hl : out.length ≠ 30 := fun h => hok (.inr h)
          by_cases hi2 : i + 1 ≤ s.length
          · rw [ih (i + 1) (i + 1) (out ++ [(s.take i).drop b]) (by omega) (by omega) hi2 (Nat.le_refl _) (by simp) (by
              intro z hz
              simp only [List.mem_append, List.mem_cons, List.not_mem_nil, or_false] at hz
              rcases hz with hz | rfl
              · exact h5 z hz
              · exact hn) (by simp; omega)]
            rw [List.append_assoc]; rfl
          · omega
      · rw [if_pos ⟨hi, hs⟩, ih (i + 1) b out (by omega) (by omega) hi (by omega) ?_ h5 h6]
        have e : (s.take (i + 1)).drop b = (s.take i).drop b ++ [s.getD i 0] := by
          rw [List.take_succ_eq_append_getElem hi, List.drop_append_of_le_length (by simp; omega)]
          simp [hi]
        rw [e]
        simp only [List.mem_append, List.mem_cons, List.not_mem_nil, or_false, not_or]
        exact ⟨h4, fun h => hs h.symm⟩
    · have hi' : i = s.length := by omega
      subst hi'
      rw [if_neg (by omega), if_neg (by omega)]
      have hf0 : f = 0 := by omega
      subst hf0
      simp only [List.take_length] at h4 ⊢
      rw [pieces_miss _ h4]
      split
      · rename_i hbad
        rw [spGo_none_or [] _ _ hbad]
        rfl
      · rename_i hok
        have hn : nameOk (s.drop b) = true := by
          cases h : nameOk (s.drop b) with
          | true => rfl
          | false => exact absurd (.inl h) hok
        have hl : out.length ≠ 30 := fun h => hok (.inr h)
        rw [if_pos (good_of (by simp; omega) (by
          intro z hz
          simp only [List.mem_append, List.mem_cons, List.not_mem_nil, or_false] at hz
          rcases hz with hz | rfl
          · exact h5 z hz
          · exact hn))]
        rfl
/-- What the specification's SplitPath answers is what a path is split into. -/
theorem spec_split (s : Str) (h1 : s ≠ [47]) : (match spGo s (s.length + 1) 0 0 [] with | none => none | some out => if s.length = 0 ∨ s.getD 0 0 ≠ 47 then none else some out) = splitOf s := by
  cases s with
  | nil => rfl
  | cons c r =>
    by_cases hc : c = 47
    · subst hc
      have hr : r ≠ [] := by rintro rfl; exact h1 rfl
      have e : spGo (47 :: r) ((47 :: r).length + 1) 0 0 [] = spGo (47 :: r) (47 :: r).length 1 1 [] := by
        conv => lhs; unfold spGo
        simp
      have hr1 : 1 ≤ r.length := by
        cases r with
        | nil => exact absurd rfl hr
        | cons a b => simp
      rw [e, spGo_eq (47 :: r) _ 1 1 [] (by simp) (by omega) (by simp) (Nat.le_refl _) (by simp) (by simp) (by simp)]
      simp only [List.nil_append, List.drop_one, List.tail_cons]
      rw [splitOf_cons, if_pos rfl, if_neg hr]
      by_cases hg : good (pieces r) = true
      · simp [hg]
      · simp [hg]
    · have e : splitOf (c :: r) = none := by simp [splitOf, hc]
      rw [e]
      split
      · rfl
      · simp [hc]
/-- A path is below another: its names begin with those. -/
def belowOf (a b : Str) : Bool := match splitOf a, splitOf b with
  | some x, some y => decide (x.length ≤ y.length) && decide (y.take x.length = x)
  | _, _ => false
/-- A path's parent and its last name. -/
def parentOf (s : Str) : Str × Str × Bool := match splitOf s with
  | some zs => if zs = [] then ([], [], false) else (joinOf zs.dropLast, zs.getLastD [], true)
  | none => ([], [], false)
end

section
open Go.RowKit
theorem ret_bool {a b : Bool} (h : a = b) : Ending.returned (.bool a) = .returned (.bool b) := by rw [h]
def signN (v : Nat) : Bool := (decide (97 ≤ v) && decide (v ≤ 122)) || (decide (48 ≤ v) && decide (v ≤ 57)) || decide (v = 95) || decide (v = 45) || decide (v = 46)
theorem signN_true {v : Nat} (h : 97 ≤ v ∧ v ≤ 122 ∨ 48 ≤ v ∧ v ≤ 57 ∨ v = 95 ∨ v = 45 ∨ v = 46) : signN v = true := by unfold signN; simp; omega
theorem signN_false {v : Nat} (h : ¬ (97 ≤ v ∧ v ≤ 122 ∨ 48 ≤ v ∧ v ≤ 57 ∨ v = 95 ∨ v = 45 ∨ v = 46)) : signN v = false := by unfold signN; simp; omega
set_option maxHeartbeats 400000 in
theorem l1In_any (x lo hi : Int) (w : World) : Calls Try.prog 74 #[.int .i64 x, .int .i64 lo, .int .i64 hi] w fun e w' => e = .returned (.bool (decide (lo ≤ x) && decide (x ≤ hi))) ∧ w' = w := by
  go_enter Try.func74, Try.ntmps74
  go_wp2
  all_goals go_ret
  all_goals (refine ⟨ret_bool ?_, rfl⟩; simp; try omega)
/-- The k-th byte of a text. -/
def byt (s : ByteArray) (k : Nat) : UInt8 := s.data.toList.getD k 0
theorem byt_get (s : ByteArray) (k : Nat) (h : k < s.size) : s[k] = byt s k := by
  unfold byt
  have hl : k < s.data.toList.length := by rw [← Lib.size_eq]; exact h
  simp only [List.getD_eq_getElem?_getD, List.getElem?_eq_getElem hl, Option.getD_some]
  rfl
theorem nameOk_iff (l : Str) : nameOk l = true ↔ 1 ≤ l.length ∧ l.length ≤ 14 ∧ l ≠ [46] ∧ l ≠ [46, 46] ∧ l.all sign = true := by
  unfold nameOk
  simp only [Bool.and_eq_true, decide_eq_true_eq, and_assoc]
theorem all_take (l : Str) (k : Nat) (h : k < l.length) (h1 : (l.take k).all sign = true) (h2 : sign (l.getD k 0) = true) : (l.take (k + 1)).all sign = true := by
  rw [List.take_succ_eq_append_getElem h, List.all_append, h1]
  have : l.getD k 0 = l[k] := by simp [h]
  rw [this] at h2
  simp [h2]
theorem all_not (l : Str) (k : Nat) (h : k < l.length) (h2 : sign (l.getD k 0) = false) : l.all sign = false := by
  rw [List.all_eq_false]
  refine ⟨l[k], List.getElem_mem h, ?_⟩
  have : l.getD k 0 = l[k] := by simp [h]
  rw [this] at h2
  simp [h2]
theorem nameOk_false {l : Str} (h : ¬ (1 ≤ l.length ∧ l.length ≤ 14 ∧ l ≠ [46] ∧ l ≠ [46, 46] ∧ l.all sign = true)) : nameOk l = false := by
  rw [Bool.eq_false_iff]; exact fun h' => h ((nameOk_iff l).1 h')
set_option maxHeartbeats 800000 in
theorem nameS (s : ByteArray) (w : World) (hs : s.size ≤ 4000000) : Calls Try.prog 137 #[.string s] w fun e w' => e = .returned (.bool (nameOk s.data.toList)) ∧ w' = w := by
  have hsz' : Hid (s.size = s.data.toList.length) := Lib.size_eq s
  have htl' : Hid (s.toList = s.data.toList) := Lib.toList_data s
  go_enter Try.func137, Try.ntmps137
  go_wp2
  go_loop [3] (fun i => ∃ k : Nat, k ≤ s.size ∧ i = .int .i64 k ∧ Hid ((s.data.toList.take k).all sign = true)) (fun i => s.size - (intOf i).toNat)
  case atStart => exact ⟨0, Nat.zero_le _, rfl, rfl⟩
  case round =>
    obtain ⟨k, hk, rfl, hall⟩ := hrel
    by_cases hkn : k < s.size
    · have hki : (k : Int) < (s.size : Int) := by omega
      have hb0 := byt_get s k hkn
      obtain ⟨v, hv⟩ : ∃ v, (byt s k).toNat = v := ⟨_, rfl⟩
      have hb : s[k].toNat = v := by rw [hb0]; exact hv
      have hv256 : v < 256 := by rw [← hv]; exact (byt s k).toNat_lt
      have hsg : sign (byt s k) = signN v := by rw [← hv]; rfl
      have hgo : Hid (signN v = true → (s.data.toList.take (k + 1)).all sign = true) := fun h => all_take _ k (by rw [← hsz'.out]; exact hkn) hall.out (hsg.trans h)
      have hno : Hid (signN v = false → nameOk s.data.toList = false) := fun h => nameOk_false (by rw [all_not s.data.toList k (by rw [← hsz'.out]; exact hkn) (hsg.trans h)]; simp)
      clear hb0 hsg hall hv
      go_wp2_with (go_at_call 74; refine (l1In_any _ _ _ _).mono ?_; rintro e w1 ⟨rfl, rfl⟩)
      all_goals (try simp only [bne_iff_ne, bne_eq_false_iff_eq, ne_eq, Bool.not_eq_true', Bool.not_eq_false', decide_eq_true_eq, decide_eq_false_iff_not] at *)
      all_goals first
        | (go_round
           case rel => exact ⟨k + 1, by omega, by go_num, hgo.out (signN_true (by omega))⟩
           case measure => simp [intOf]; omega)
        | (go_ret
           exact ⟨ret_bool (hno.out (signN_false (by omega))).symm, rfl⟩)
    · have hki : ¬ (k : Int) < (s.size : Int) := by omega
      have hall' : Hid (s.data.toList.all sign = true) := by
        have hl := hsz'.out
        have ha := hall.out
        rw [List.take_of_length_le (by omega)] at ha
        exact ha
      clear hall
      by_cases h1 : (1 : Int) ≤ (s.size : Int) ∧ (s.size : Int) ≤ 14
      · by_cases h3 : s.toList = [46]
        · have hb3 : (s.toList == [46]) = true := by simpa using h3
          have hf : Hid (nameOk s.data.toList = false) := nameOk_false (by rw [← htl'.out, h3]; simp)
          go_wp2_with (go_at_call 74; refine (l1In_any _ _ _ _).mono ?_; rintro e w1 ⟨rfl, rfl⟩)
          all_goals go_ret
          all_goals exact ⟨ret_bool hf.out.symm, rfl⟩
        · have hb3 : (s.toList == [46]) = false := by simpa using h3
          by_cases h4 : s.toList = [46, 46]
          · have hb4 : (s.toList == [46, 46]) = true := by simpa using h4
            have hf : Hid (nameOk s.data.toList = false) := nameOk_false (by rw [← htl'.out, h4]; simp)
            go_wp2_with (go_at_call 74; refine (l1In_any _ _ _ _).mono ?_; rintro e w1 ⟨rfl, rfl⟩)
            all_goals go_ret
            all_goals exact ⟨ret_bool hf.out.symm, rfl⟩
          · have hb4 : (s.toList == [46, 46]) = false := by simpa using h4
            have hf : Hid (nameOk s.data.toList = true) := (nameOk_iff _).2 ⟨by rw [← hsz'.out]; omega, by rw [← hsz'.out]; omega, by rw [← htl'.out]; exact h3, by rw [← htl'.out]; exact h4, hall'.out⟩
            go_wp2_with (go_at_call 74; refine (l1In_any _ _ _ _).mono ?_; rintro e w1 ⟨rfl, rfl⟩)
            all_goals go_ret
            all_goals exact ⟨ret_bool hf.out.symm, rfl⟩
      · have hf : Hid (nameOk s.data.toList = false) := nameOk_false (by rw [← hsz'.out]; omega)
        go_wp2_with (go_at_call 74; refine (l1In_any _ _ _ _).mono ?_; rintro e w1 ⟨rfl, rfl⟩)
        all_goals go_ret
        all_goals exact ⟨ret_bool hf.out.symm, rfl⟩
end

section
open Go.RowKit
/-- The digits of a number ahead of what is there, fuel f. -/
def mtL : Nat → Nat → Str → Str
  | 0, _, acc => acc
  | f + 1, k, acc => if k = 0 then acc else mtL f (k / 10) ((48 + k % 10).toUInt8 :: acc)
/-- The mark of a number. -/
def mt (k : Nat) : ByteArray := ⟨(109 :: mtL 7 k []).toArray⟩
theorem gr_of_below {w w' : World} (h : Below w.heap.size w w') (r : Option Nat) : w.grownBy w' r := ⟨h.os, h.tape, h.output, h.size, fun k hk _ => h.block k hk⟩
end

section
open Go.RowKit
set_option maxHeartbeats 4000000 in
set_option maxRecDepth 100000 in
theorem clone_inner (s : ByteArray) (w : World) (hs : s.size ≤ 4000000) :
    Calls Try.prog 84 #[.string s] w fun e w' => e = .returned (.string s) ∧ Below w.heap.size w w' := by
  by_cases h0 : s.size = 0
  · obtain rfl : s = ⟨#[]⟩ := by
      apply ByteArray.ext
      exact Array.eq_empty_of_size_eq_zero h0
    go_enter Try.func84, Try.ntmps84
    go_wp2
    go_ret
    exact ⟨rfl, Below.refl _ _⟩
  · obtain ⟨i0, hi, hz0, hz1, hz2⟩ := info_parts Try.info5
    have hinfo : (Try.prog.info? 5).map (·.size) = some 1 := by rw [hi]; simp [hz1]
    have hco : Try.prog.cellsOf 5 = 1 := by simp [Program.cellsOf, hi, hz1]
    obtain ⟨M, hM⟩ : ∃ M, M = madeCells (Value.int .u8 0).cells (((s.size : Nat) : Int).toNat * i0.size) := ⟨_, rfl⟩
    have hMs : M.size = s.size := by rw [hM, size_madeCells, hz1]; simp
    have hmk : ∀ W : World, (Instr.makeSlice 22 (.int .i64 (s.size : Int)) (.int .i64 (s.size : Int))).run Try.prog W = .ok (.slice (some ⟨W.heap.size, 0, none⟩) s.size s.size) (W.alloc (.cells M 5)) := fun W => by
      have h := run_make (P := Try.prog) W 22 5 i0 (.int .u8 0) Try.underlying22 hi hz0 .i64 .i64 (s.size : Int) (s.size : Int) (by omega) (by omega) (by rw [hz2]; omega) (by omega)
      rw [← hM] at h
      simpa using h
    clear hM
    have hcp := Lib.run_copy_row_string (P := Try.prog) (w.alloc (.cells M 5)) 22 9 3 5 w.heap.size 0 s.size s.size s M 5 Try.underlying22 hinfo (heap_alloc_new w _) (Nat.le_refl _) (by omega)
    obtain ⟨Y, hY⟩ : ∃ Y, Y = (M.toList.take 0 ++ Lib.byteCells s.data.toList ++ M.toList.drop (0 + s.size)).toArray := ⟨_, rfl⟩
    rw [← hY] at hcp
    have hYl : Y.toList = Lib.byteCells s.data.toList := by
      rw [hY, List.toList_toArray, List.take_zero, List.nil_append, List.drop_of_length_le (by rw [Array.length_toList]; omega), List.append_nil]
    have hYs : Y.size = s.size := by rw [← Array.length_toList, hYl, Lib.byteCells_length, ← Lib.size_eq]
    have hgY : ((w.alloc (.cells M 5)).setRow w.heap.size Y).heap[w.heap.size]? = some (.cells Y 5 (0, 0)) := setRow_heap _ _ M _ 5 (0, 0) (heap_alloc_new w _)
    have hne : s.data.toList ≠ [] := fun e => h0 (by rw [Lib.size_eq, e]; rfl)
    have hUS := Lib.run_unsafeString_row (P := Try.prog) ((w.alloc (.cells M 5)).setRow w.heap.size Y) 133 3 9 5 Try.underlying133 hco w.heap.size Y.size (by unfold World.shape?; rw [hgY]) s.data.toList hne (by rw [← Lib.size_eq]; omega) (by rw [← Lib.size_eq]; omega)
      (fun j x hx => Lib.cells_of_row hgY Y.size j _ (by rw [List.take_of_length_le (by rw [Array.length_toList]; exact Nat.le_refl _), hYl]; simp [Lib.byteCells, hx]))
    rw [← Lib.size_eq] at hUS
    clear hY
    have hb1 : Below w.heap.size w (w.alloc (.cells M 5)) := (Below.refl _ w).alloc (Nat.le_refl _) _
    have hb2 : Below w.heap.size (w.alloc (.cells M 5)) ((w.alloc (.cells M 5)).setRow w.heap.size Y) := ⟨rfl, rfl, rfl, by simp, fun k hk => setRow_other _ _ _ _ (by omega)⟩
    have hb : Hid (Below w.heap.size w ((w.alloc (.cells M 5)).setRow w.heap.size Y)) := hb1.trans hb2
    clear hb1 hb2
    go_enter Try.func84, Try.ntmps84
    go_wp2
    go_ret
    exact ⟨rfl, Lib.below_freeze hb.out (p := ⟨w.heap.size, 0, none⟩) (Nat.le_refl _) _⟩
set_option maxHeartbeats 1000000 in
theorem strClone (s : ByteArray) (w : World) (hs : s.size ≤ 4000000) :
    Calls Try.prog 60 #[.string s] w fun e w' => e = .returned (.string s) ∧ Below w.heap.size w w' := by
  go_enter Try.func60, Try.ntmps60
  go_wp2_with fail
  refine (clone_inner s w hs).mono ?_
  rintro e w1 ⟨rfl, hb⟩
  go_wp2
  go_ret
  exact ⟨rfl, hb⟩
end
end Go.Proofs.Ytgcmpimckpnemaa
