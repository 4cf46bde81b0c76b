/-
  Joined: Base, Crc, Get, Put, Mark, Path.
-/
import Derived.Test.YtbjfihabkpianaaGreatDoorRows
import Derived.WalkKit
import Derived.WalkSpells
import Derived.WalkLawsBesides
import Derived.Deep.QuietTactic
import Derived.BigQuiet
import Derived.OpenShut
import Derived.Laws.BitsAllLaws
import Derived.Maps.AppendAt
import Derived.Lib.SliceRun
namespace Go.Proofs.YtbjfihabkpianaaGreatDoor
section
open Go.RowKit
theorem Tryz.info5 : (Tryz.prog.info? 5).map (fun i => (i.zero, i.size, i.bytes)) = some (some (.int .u8 0), 1, 1) := by kernel_rfl
/-- The bytes zs can be read from the address a on. -/
def Rd (w : World) (a : Option Addr) (zs : List Int) : Prop :=
  zs = [] ∨ ∃ b off, a = some ⟨b, off, none⟩ ∧ ∀ i, i < zs.length → w.cell? ⟨b, off + i, none⟩ = some (.int .u8 (zs.getD i 0))
def Byt (zs : List Int) : Prop := ∀ z ∈ zs, 0 ≤ z ∧ z ≤ 255
/-- The block g is the call's own row, of whose cells the first are the bytes zs. -/
def Own (w : World) (g n cap : Nat) (zs : List Int) : Prop := w.ownsRow 0 5 1 (.slice (some ⟨g, 0, none⟩) n cap) n (zs.map (Value.int .u8))
theorem Rd.below {w w' : World} {B : Nat} {a : Option Addr} {zs : List Int} (h : Rd w a zs) (hb : Below B w w') (hB : ∀ b off, a = some ⟨b, off, none⟩ → b < B) : Rd w' a zs := by
  rcases h with h | ⟨b, off, rfl, hc⟩
  · exact .inl h
  · refine .inr ⟨b, off, rfl, fun i hi => ?_⟩
    rw [hb.cell (p := ⟨b, off + i, none⟩) (hB b off rfl)]
    exact hc i hi
theorem Rd.lt {w : World} {a : Option Addr} {zs : List Int} (h : Rd w a zs) (hz : zs ≠ []) : ∃ b off, a = some ⟨b, off, none⟩ ∧ b < w.heap.size ∧ ∀ i, i < zs.length → w.cell? ⟨b, off + i, none⟩ = some (.int .u8 (zs.getD i 0)) := by
  rcases h with h | ⟨b, off, rfl, hc⟩
  · exact absurd h hz
  · refine ⟨b, off, rfl, ?_, hc⟩
    have := hc 0 (List.length_pos_iff.2 hz)
    exact World.block_lt_of_cell? w _ this
theorem Rd.keep {w w' : World} {a : Option Addr} {zs : List Int} (h : Rd w a zs) (hb : Below w.heap.size w w') : Rd w' a zs := by
  by_cases hz : zs = []
  · exact .inl hz
  · obtain ⟨b, off, rfl, hlt, hc⟩ := h.lt hz
    refine .inr ⟨b, off, rfl, fun i hi => ?_⟩
    rw [hb.cell (p := ⟨b, off + i, none⟩) hlt]
    exact hc i hi
theorem Own.len {w : World} {g n cap : Nat} {zs : List Int} (h : Own w g n cap zs) : zs.length = n := by simpa using h.1
theorem Own.rd {w : World} {g n cap : Nat} {zs : List Int} (h : Own w g n cap zs) : Rd w (some ⟨g, 0, none⟩) zs := by
  refine .inr ⟨g, 0, rfl, fun i hi => ?_⟩
  have hn := h.len
  have := World.ownsRow.cellAt h i (by omega)
  rw [Nat.zero_add, this]
  simp [hi]
theorem Own.keep {w w' : World} {g n cap B : Nat} {zs : List Int} (h : Own w g n cap zs) (hb : Below B w w') (hg : g < B) : Own w' g n cap zs := by
  refine ⟨h.1, ?_⟩
  rcases h.2 with ⟨h', _⟩ | ⟨g', cap', cur, h', hb', hgg, rest⟩
  · simp at h'
  · refine .inr ⟨g', cap', cur, h', hb', ?_, rest⟩
    simp only [Value.slice.injEq, Option.some.injEq, Addr.mk.injEq, and_true, true_and] at h'
    obtain ⟨rfl, rfl⟩ := h'
    rw [hb.block g hg]; exact hgg
theorem Own.lt {w : World} {g n cap : Nat} {zs : List Int} (h : Own w g n cap zs) : g < w.heap.size := (World.ownsRow.lt h g rfl).2
/-- What the frame tells of a slice of bytes that came in, as Rd. -/
theorem rd_of_row {w : World} {a : Option Addr} {len cap : Nat} {zs : List Int}
    (h : (a = none ∧ len = 0 ∧ cap = 0 ∧ zs = []) ∨ ∃ x, a = some x ∧ len ≤ cap ∧ cap ≤ maxLen ∧ zs.length = cap ∧ (∀ i, i < zs.length → w.cell? (x.add i) = some (.int .u8 (zs.getD i 0))) ∧ ∀ n ∈ zs, (Lit.int .u8 n).wf = true) :
    ∃ ys, ys.length = len ∧ Rd w a ys ∧ Byt ys := by
  rcases h with ⟨rfl, rfl, rfl, rfl⟩ | ⟨x, rfl, hl, hm, hz, hcell, hwz⟩
  · exact ⟨[], rfl, .inl rfl, fun z hz => by simp at hz⟩
  · refine ⟨zs.take len, by simp; omega, ?_, fun z hz => ?_⟩
    · by_cases h0 : len = 0
      · subst h0; exact .inl (by simp)
      · obtain ⟨b, off, spot⟩ := x
        have hc := hcell 0 (by omega)
        have hspot : spot = none := by simpa [Addr.add] using World.cell?_spot hc
        subst hspot
        refine .inr ⟨b, off, rfl, fun i hi => ?_⟩
        simp only [List.length_take] at hi
        have := hcell i (by omega)
        have e : (⟨b, off, none⟩ : Addr).add i = ⟨b, off + i, none⟩ := by simp [Addr.add]
        rw [e] at this
        rw [this]
        have hi' : i < len := by omega
        simp [hi']
    · have h1 := hwz z (List.mem_of_mem_take hz)
      have := bounds_u8 h1
      omega
end

section
open Go.RowKit
theorem getD_byt {zs : List Int} (hb : Byt zs) (k : Nat) : 0 ≤ zs[k]?.getD 0 ∧ zs[k]?.getD 0 ≤ 255 := by
  by_cases h : k < zs.length
  · rw [List.getElem?_eq_getElem h]; exact hb _ (List.getElem_mem h)
  · rw [List.getElem?_eq_none (by omega)]; simp
theorem Byt.take {zs : List Int} (hb : Byt zs) (k : Nat) : Byt (zs.take k) := fun z hz => hb z (List.mem_of_mem_take hz)
theorem ret_int {k : IntKind} {a b : Int} (h : a = b) : Ending.returned (.int k a) = .returned (.int k b) := by rw [h]
theorem byt_at {zs : List Int} (hb : Byt zs) (k : Nat) : ∃ Z : Nat, zs.getD k 0 = (Z : Int) ∧ Z ≤ 255 := by
  have := getD_byt hb k
  refine ⟨(zs.getD k 0).toNat, ?_, ?_⟩ <;> simp <;> omega
end

section
open Go.RowKit
def gnGo (zs : List Int) (p : Nat) : Nat → Nat → Nat → (Nat × Nat × Bool)
  | 0, _, _ => (0, 0, false)
  | f + 1, k, acc =>
    if p + k < zs.length then
      if 128 ≤ (zs.getD (p + k) 0).toNat then gnGo zs p f (k + 1) (acc + (zs.getD (p + k) 0).toNat % 128 * 128 ^ k)
      else if (0 < k ∧ (zs.getD (p + k) 0).toNat = 0) ∨ 1000000 < acc + (zs.getD (p + k) 0).toNat % 128 * 128 ^ k then (0, 0, false)
      else (acc + (zs.getD (p + k) 0).toNat % 128 * 128 ^ k, p + k + 1, true)
    else (0, 0, false)
def gn (zs : List Int) (at' : Int) : Nat × Nat × Bool := if at' < 0 ∨ (zs.length : Int) ≤ at' then (0, 0, false) else gnGo zs at'.toNat 3 0 0
end

section
open Go.RowKit
/-- An append onto a row of the call's own, the new slice written out. -/
theorem wpList_app (w : World) {ops : Array Oper} {rest : List Oper} {o : Oper} {a : Act} {Q : Exit → Act → World → Prop} (hgd : o.guard = none) (s x : Operand)
    (ho : o.op = .call { callee := .builtin .append, args := #[s, x], argTypes := #[42, 42] })
    (g n c : Nat) (zs : List Int) (hs : a.eval s = .slice (some ⟨g, 0, none⟩) n c) (hown : Own w g n c zs)
    (ad : Addr) (m c' : Nat) (ys : List Int) (hx : a.eval x = .slice (some ad) m c') (hl : ys.length = m)
    (hnews : ∀ j, j < m → w.cell? (ad.add j) = some (.int .u8 (ys.getD j 0))) (hb : n + m ≤ 8000000) (H : Nat) (hH : w.heap.size = H)
    (h : ∀ g' cap' w', Own w' g' (n + m) cap' (zs ++ ys) → w.grownBy w' (some g) → (g' = g ∨ g' = H) → wpList Tryz.prog ops Q rest (a.put o.dst (.slice (some ⟨g', 0, none⟩) (n + m) cap')) w') :
    wpList Tryz.prog ops Q (o :: rest) a w := by
  obtain ⟨i0, hi, hz0, hz1, hz2⟩ := info_parts Tryz.info5
  refine wpList_append_own_at w hgd s x 42 ho 0 5 i0 (.int .u8 0) 1 1 Tryz.underlying42 hi hz0 hz1 hz2 rfl (by decide) _ n (zs.map (Value.int .u8)) hs hown ad m c' (ys.map (Value.int .u8)) hx (by simp [hl]) ?_ ?_ (by unfold maxLen; omega) (by omega) (Nat.zero_le _) ?_
  · intro j u hj
    simp only [List.getElem?_map] at hj
    by_cases hjm : j < m
    · rw [hnews j hjm]
      rw [List.getElem?_eq_getElem (by omega)] at hj
      simpa [List.getElem?_eq_getElem (show j < ys.length by omega)] using hj
    · rw [List.getElem?_eq_none (by omega)] at hj
      simp at hj
  · intro u hu
    simp only [List.mem_map] at hu
    obtain ⟨z, _, rfl⟩ := hu
    rfl
  · intro v' w' h1 h2 h3 h4
    have h1' := h1
    rcases h1.2 with ⟨e, _⟩ | ⟨g', cap', cur, e, _⟩
    · exact absurd (h3.1 e).1 (by simp)
    · subst e
      refine h g' cap' w' ?_ h2 ?_
      · unfold Own; rw [List.map_append]; exact h1'
      · rcases h4 with h4 | h4
        · left; simpa [Value.ownBlock] using h4
        · right; rw [← hH]; simpa [Value.ownBlock] using h4
theorem own_empty (w : World) : Own (w.alloc (.cells #[] 5)) w.heap.size 0 0 [] := by
  exact World.ownsRow_made (base := 0) (e := 5) (size := 1) w #[] 0 (Nat.zero_le _) (by unfold maxLen; omega) rfl
theorem Rd.news {w : World} {ad : Addr} {zs : List Int} {m : Nat} (h : Rd w (some ad) zs) (hl : zs.length = m) : ∀ j, j < m → w.cell? (ad.add j) = some (.int .u8 (zs.getD j 0)) := by
  intro j hj
  rcases h with h | ⟨b, off, e, hc⟩
  · subst h; simp at hl; omega
  · obtain rfl : ad = ⟨b, off, none⟩ := by simpa using e
    have e' : (⟨b, off, none⟩ : Addr).add j = ⟨b, off + j, none⟩ := by simp [Addr.add]
    rw [e']; exact hc j (by omega)
end

section
open Go.RowKit
theorem Own.kept {w w' : World} {g n c g2 : Nat} {zs : List Int} (h : Own w g n c zs) (hg : w.grownBy w' (some g2)) (hne : g ≠ g2) : Own w' g n c zs :=
  World.ownsRow.kept h hg (.inr (by simp [Value.ownBlock, hne]))
end

section
abbrev Str := List UInt8
/-- A sign that a name may have. -/
def sign (c : UInt8) : Bool := (decide (97 ≤ c.toNat) && decide (c.toNat ≤ 122)) || (decide (48 ≤ c.toNat) && decide (c.toNat ≤ 57)) || decide (c.toNat = 95) || decide (c.toNat = 45) || decide (c.toNat = 46)
def nameOk (l : Str) : Bool := decide (1 ≤ l.length) && decide (l.length ≤ 14) && decide (l ≠ [46]) && decide (l ≠ [46, 46]) && l.all sign
theorem sign_slash : sign 47 = false := by decide
theorem nameOk_slash {l : Str} (h : nameOk l = true) : 47 ∉ l := by
  intro hm
  unfold nameOk at h
  simp only [Bool.and_eq_true, List.all_eq_true] at h
  have := h.2 _ hm
  rw [sign_slash] at this
  simp at this
theorem nameOk_ne {l : Str} (h : nameOk l = true) : l ≠ [] := by rintro rfl; simp [nameOk] at h
theorem nameOk_len {l : Str} (h : nameOk l = true) : l.length ≤ 14 := by
  unfold nameOk at h
  simp only [Bool.and_eq_true, decide_eq_true_eq] at h
  exact h.1.1.1.2
/-- What stands between the slashes. -/
def pieces : Str → List Str
  | [] => [[]]
  | c :: r => if c = 47 then [] :: pieces r else match pieces r with
    | [] => [[c]]
    | p :: ps => (c :: p) :: ps
theorem pieces_slash (r : Str) : pieces (47 :: r) = [] :: pieces r := by simp [pieces]
theorem pieces_ne (l : Str) : pieces l ≠ [] := by
  cases l with
  | nil => simp [pieces]
  | cons c r =>
    unfold pieces
    split
    · simp
    · split <;> simp
theorem pieces_hit (b a : Str) (h : 47 ∉ b) : pieces (b ++ 47 :: a) = b :: pieces a := by
  induction b with
  | nil => simp [pieces]
  | cons c b ih =>
    simp only [List.mem_cons, not_or] at h
    have hc : ¬ c = 47 := fun e => h.1 e.symm
    simp only [List.cons_append, pieces, if_neg hc, ih h.2]
theorem pieces_miss (b : Str) (h : 47 ∉ b) : pieces b = [b] := by
  induction b with
  | nil => simp [pieces]
  | cons c b ih =>
    simp only [List.mem_cons, not_or] at h
    have hc : ¬ c = 47 := fun e => h.1 e.symm
    simp only [pieces, if_neg hc, ih h.2]
theorem pieces_join (r : Str) : (pieces r).flatMap (fun p => 47 :: p) = 47 :: r := by
  induction r with
  | nil => simp [pieces]
  | cons c r ih =>
    by_cases hc : c = 47
    · subst hc; rw [pieces_slash, List.flatMap_cons, ih]; rfl
    · simp only [pieces, if_neg hc]
      cases hp : pieces r with
      | nil => exact absurd hp (pieces_ne r)
      | cons p ps =>
        rw [hp] at ih
        simp only [List.flatMap_cons, List.cons_append, List.cons.injEq, true_and] at ih ⊢
        exact ih
theorem pieces_of (z : Str) (zs : List Str) (hz : 47 ∉ z) (h : ∀ x ∈ zs, 47 ∉ x) : pieces (z ++ zs.flatMap (fun p => 47 :: p)) = z :: zs := by
  induction zs generalizing z with
  | nil => simp [pieces_miss z hz]
  | cons y ys ih =>
    simp only [List.flatMap_cons, List.cons_append]
    rw [pieces_hit z _ hz, ih y (h y (by simp)) (fun x hx => h x (by simp [hx]))]
def good (ps : List Str) : Bool := decide (ps.length ≤ 30) && ps.all nameOk
/-- What a path is split into. -/
def splitOf : Str → Option (List Str)
  | [] => none
  | c :: r => if c = 47 then (if r = [] then some [] else if good (pieces r) then some (pieces r) else none) else none
/-- What names are joined to; nothing where they are no path's. -/
def joinOf (zs : List Str) : Str := if zs = [] then [47] else if good zs then zs.flatMap (fun p => 47 :: p) else []
theorem splitOf_cons (c : UInt8) (r : Str) : splitOf (c :: r) = if c = 47 then (if r = [] then some [] else if good (pieces r) then some (pieces r) else none) else none := rfl
theorem split_cases {s : Str} {zs : List Str} (h : splitOf s = some zs) : (s = [47] ∧ zs = []) ∨ ∃ r, s = 47 :: r ∧ r ≠ [] ∧ good (pieces r) = true ∧ zs = pieces r := by
  cases s with
  | nil => simp [splitOf] at h
  | cons c r =>
    rw [splitOf_cons] at h
    by_cases hc : c = 47
    · subst hc
      rw [if_pos rfl] at h
      by_cases hr : r = []
      · subst hr; rw [if_pos rfl] at h; simp only [Option.some.injEq] at h; exact .inl ⟨rfl, h.symm⟩
      · rw [if_neg hr] at h
        by_cases hg : good (pieces r) = true
        · rw [if_pos hg] at h; simp only [Option.some.injEq] at h; exact .inr ⟨r, rfl, hr, hg, h.symm⟩
        · rw [if_neg hg] at h; simp at h
    · rw [if_neg hc] at h; simp at h
theorem split_good {s : Str} {zs : List Str} (h : splitOf s = some zs) : good zs = true := by
  rcases split_cases h with ⟨rfl, rfl⟩ | ⟨r, rfl, _, hg, rfl⟩
  · rfl
  · exact hg
theorem good_len {zs : List Str} (h : good zs = true) : zs.length ≤ 30 := by unfold good at h; simp only [Bool.and_eq_true, decide_eq_true_eq] at h; exact h.1
theorem good_all {zs : List Str} (h : good zs = true) : ∀ z ∈ zs, nameOk z = true := by unfold good at h; simp only [Bool.and_eq_true, List.all_eq_true] at h; exact h.2
theorem good_of {zs : List Str} (h : zs.length ≤ 30) (h2 : ∀ z ∈ zs, nameOk z = true) : good zs = true := by
  unfold good; simp only [Bool.and_eq_true, decide_eq_true_eq, List.all_eq_true]; exact ⟨h, h2⟩
theorem good_prefix {xs zs : List Str} (h : good zs = true) (hp : xs <+: zs) : good xs = true := by
  obtain ⟨t, rfl⟩ := hp
  refine good_of ?_ (fun z hz => good_all h z (by simp [hz]))
  have := good_len h
  simp at this
  omega
theorem join_split {s : Str} {zs : List Str} (h : splitOf s = some zs) : joinOf zs = s := by
  rcases split_cases h with ⟨rfl, rfl⟩ | ⟨r, rfl, _, hg, rfl⟩
  · rfl
  · rw [joinOf, if_neg (pieces_ne r), if_pos hg, pieces_join]
theorem split_join {zs : List Str} (h : joinOf zs ≠ []) : splitOf (joinOf zs) = some zs := by
  cases zs with
  | nil => decide
  | cons z zs =>
    have hg : good (z :: zs) = true := by
      cases hg : good (z :: zs) with
      | true => rfl
      | false => exact absurd (by simp [joinOf, hg]) h
    have ha := good_all hg
    have hp := pieces_of z zs (nameOk_slash (ha z (by simp))) (fun x hx => nameOk_slash (ha x (by simp [hx])))
    rw [joinOf, if_neg (by simp), if_pos hg]
    simp only [List.flatMap_cons, List.cons_append]
    have hne : z ++ zs.flatMap (fun p => 47 :: p) ≠ [] := by
      have := nameOk_ne (ha z (by simp))
      simp [this]
    rw [splitOf_cons, if_pos rfl, if_neg hne, hp, if_pos hg]
theorem spGo_none_or (ps out : List Str) (p : Str) (h : nameOk p = false ∨ out.length = 30) : good (out ++ p :: ps) = false := by
  rw [Bool.eq_false_iff]
  intro hg
  rcases h with h | h
  · have := good_all hg p (by simp)
    rw [h] at this; simp at this
  · have := good_len hg
    simp at this
    omega
/-- A path's parent and its last name. -/
def parentOf (s : Str) : Str × Str × Bool := match splitOf s with
  | some zs => if zs = [] then ([], [], false) else (joinOf zs.dropLast, zs.getLastD [], true)
  | none => ([], [], false)
end
end Go.Proofs.YtbjfihabkpianaaGreatDoor
