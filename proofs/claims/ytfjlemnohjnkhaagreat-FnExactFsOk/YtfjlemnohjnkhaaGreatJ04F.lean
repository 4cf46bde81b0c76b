/-
  Joined: InoOpen, SzIno, Six.
-/
import Derived.Test.YtfjlemnohjnkhaaGreatJ02F
import Derived.ProofKit
import Derived.ChangeOld
import Derived.Below
namespace Go.Proofs.YtfjlemnohjnkhaaGreat
section
open Go.ChangeShapes Go.WideShapes Go.ChangeAt Go.RowKit
section
variable {H : Type} {enc : TypeId × Value → H} {w : World} {base : Nat} {held : Bool}
theorem cells_two {a : Addr} {cs : List Value} (h : w.cells? base a 2 = some cs) : ∃ v0 v1, cs = [v0, v1] ∧ w.cell? a = some v0 ∧ w.cell? (a.add 1) = some v1 := by
  unfold World.cells? at h
  split at h
  · have e : List.range 2 = [0, 1] := rfl
    rw [e] at h
    simp only [List.mapM_cons, List.mapM_nil, Option.bind_eq_bind, Option.pure_def, Option.bind_eq_some_iff, Option.some.injEq] at h
    obtain ⟨v0, h0, _, ⟨v1, h1, _, rfl, rfl⟩, rfl⟩ := h
    exact ⟨v0, v1, rfl, by simpa [Addr.add] using h0, h1⟩
  · simp at h
/-- A slice of pairs that came in, opened. -/
theorem open_pairs {P : Program} {α : Type} [Inhabited α] (en : α → VP) (R : α → Prop) {t e : TypeId} {fuel : Nat} {cs : List Value} {x : DataW H × List MemPlace} (ht : P.underlying t = some (.slice e)) (hc : P.cellsOf e = 2)
    (hel : ∀ n cs' y, DataW.trod enc P w base (fun _ => true) held n e cs' = some y → ∃ q, cs' = [(en q).1, (en q).2] ∧ R q)
    (h : DataW.trod enc P w base (fun _ => true) held fuel t cs = some x) :
    ∃ (a : Option Addr) (len cap : Nat) (es : List α), cs = [.slice a len cap] ∧ len ≤ maxLen ∧ es.length = len ∧ (∀ q ∈ es, R q) ∧ RdP w a (es.map en) := by
  rcases Deep.open_slice ht h with ⟨rfl, _⟩ | ⟨a, len, cap, m, n, D, Pl, rfl, _, hl, hm, hmm, _, hx⟩
  · exact ⟨none, 0, 0, [], rfl, Nat.zero_le _, rfl, fun q hq => by simp at hq, .inl rfl⟩
  · simp only [if_true] at hmm
    subst hmm
    rw [hc] at hx
    obtain ⟨f, hf⟩ := Deep.choose_lt (α := α) (n := len) (p := fun i q => (w.cell? (a.add (i * 2)) = some (en q).1 ∧ w.cell? ((a.add (i * 2)).add 1) = some (en q).2) ∧ R q) (fun i hi => by
      obtain ⟨cs', h1, h2⟩ := hx i (by omega)
      obtain ⟨q, hq, hR⟩ := hel n cs' _ h2
      obtain ⟨v0, v1, e, k0, k1⟩ := cells_two h1
      rw [hq] at e
      simp only [List.cons.injEq, and_true] at e
      exact ⟨q, ⟨by rw [k0, e.1], by rw [k1, e.2]⟩, hR⟩)
    refine ⟨some a, len, m, (List.range len).map f, rfl, Nat.le_trans hl hm, by simp, ?_, ?_⟩
    · intro q hq
      obtain ⟨i, hi, rfl⟩ := List.mem_map.1 hq
      exact (hf i (List.mem_range.1 hi)).2
    · by_cases h0 : len = 0
      · subst h0; exact .inl rfl
      · obtain ⟨b, off, spot⟩ := a
        have hc0 := (hf 0 (by omega)).1.1
        have hspot : spot = none := by simpa [Addr.add] using World.cell?_spot hc0
        subst hspot
        refine .inr ⟨b, off, rfl, fun i hi => ?_⟩
        simp only [List.length_map, List.length_range] at hi
        obtain ⟨⟨k0, k1⟩, _⟩ := hf i hi
        have e1 : (⟨b, off, none⟩ : Addr).add (i * 2) = ⟨b, off + i * 2, none⟩ := by simp [Addr.add]
        have e2 : (⟨b, off + i * 2, none⟩ : Addr).add 1 = ⟨b, off + i * 2 + 1, none⟩ := by simp [Addr.add]
        rw [e1] at k0 k1
        rw [e2] at k1
        have ed : (List.map en (List.map f (List.range len))).getD i (undef, undef) = en (f i) := by simp [hi]
        rw [ed]
        exact ⟨k0, k1⟩
/-- What is known of an inode that came in. -/
structure InoIn (D : InoD) : Prop where
  ino : (Lit.int .i64 D.ino).wf = true
  kind : (Lit.int .i64 D.kind).wf = true
  links : (Lit.int .i64 D.links).wf = true
  data : D.data.length ≤ maxLen
  ents : D.ents.length ≤ maxLen
  attrs : D.attrs.length ≤ maxLen
  entsz : ∀ q ∈ D.ents, q.1.size ≤ maxLen ∧ (Lit.int .i64 q.2).wf = true
  attrsz : ∀ q ∈ D.attrs, q.1.size ≤ maxLen ∧ q.2.size ≤ maxLen
theorem list2 {α : Type} {l : List α} (h : l.length = 2) : ∃ a b, l = [a, b] := by
  match l, h with
  | [a, b], _ => exact ⟨a, b, rfl⟩
theorem list6 {α : Type} {l : List α} (h : l.length = 6) : ∃ a b c d e f, l = [a, b, c, d, e, f] := by
  match l, h with
  | [a, b, c, d, e, f], _ => exact ⟨a, b, c, d, e, f, rfl⟩
end
end

section
open Go.RowKit
/-- An inode whose lists and texts are small. -/
structure InoSmall (D : InoD) : Prop where
  data : D.data.length ≤ 1048576
  ents : D.ents.length ≤ 1048576
  attrs : D.attrs.length ≤ 1048576
  entsz : ∀ q ∈ D.ents, q.1.size ≤ 1048576
  attrsz : ∀ q ∈ D.attrs, q.1.size ≤ 1048576 ∧ q.2.size ≤ 1048576
end

section
open Go.RowKit
/-- The six cells of an inode in block B. -/
structure Six (W : World) (B : Nat) (v0 v1 v2 v3 v4 v5 : Value) : Prop where
  c0 : W.cell? ⟨B, 0, none⟩ = some v0
  c1 : W.cell? ⟨B, 1, none⟩ = some v1
  c2 : W.cell? ⟨B, 2, none⟩ = some v2
  c3 : W.cell? ⟨B, 3, none⟩ = some v3
  c4 : W.cell? ⟨B, 4, none⟩ = some v4
  c5 : W.cell? ⟨B, 5, none⟩ = some v5
theorem Blk.six {W : World} {B : Nat} {t : TypeId} {v0 v1 v2 v3 v4 v5 : Value} (h : Blk W B t #[v0, v1, v2, v3, v4, v5]) : Six W B v0 v1 v2 v3 v4 v5 :=
  ⟨h.cell 0, h.cell 1, h.cell 2, h.cell 3, h.cell 4, h.cell 5⟩
/-- The cells of an inode. -/
def inoC (D : InoD) (a1 : Option Addr) (c1 : Nat) (a2 : Option Addr) (c2 : Nat) (a3 : Option Addr) (c3 : Nat) : Array Value :=
  #[.int .i64 D.ino, .int .i64 D.kind, .int .i64 D.links, .slice a1 D.data.length c1, .slice a2 D.ents.length c2, .slice a3 D.attrs.length c3]
/-- The box of an inode. -/
def Box (W : World) (B : Nat) (t : TypeId) (D : InoD) (a1 : Option Addr) (c1 : Nat) (a2 : Option Addr) (c2 : Nat) (a3 : Option Addr) (c3 : Nat) : Prop := Blk W B t (inoC D a1 c1 a2 c2 a3 c3)
theorem Box.keep {W W' : World} {B : Nat} {t : TypeId} {D : InoD} {a1 a2 a3 : Option Addr} {c1 c2 c3 : Nat} (h : Box W B t D a1 c1 a2 c2 a3 c3) (hb : Below W.heap.size W W') : Box W' B t D a1 c1 a2 c2 a3 c3 := Blk.keep h hb
theorem Box.lt {W : World} {B : Nat} {t : TypeId} {D : InoD} {a1 a2 a3 : Option Addr} {c1 c2 c3 : Nat} (h : Box W B t D a1 c1 a2 c2 a3 c3) : B < W.heap.size := Blk.lt h
theorem Box.six {W : World} {B : Nat} {t : TypeId} {D : InoD} {a1 a2 a3 : Option Addr} {c1 c2 c3 : Nat} (h : Box W B t D a1 c1 a2 c2 a3 c3) : Six W B (.int .i64 D.ino) (.int .i64 D.kind) (.int .i64 D.links) (.slice a1 D.data.length c1) (.slice a2 D.ents.length c2) (.slice a3 D.attrs.length c3) := Blk.six h
theorem Box.new (W : World) (t : TypeId) (D : InoD) (a1 a2 a3 : Option Addr) (c1 c2 c3 : Nat) : Box (W.alloc (.cells (inoC D a1 c1 a2 c2 a3 c3) t)) W.heap.size t D a1 c1 a2 c2 a3 c3 := Blk.new W t _
end
end Go.Proofs.YtfjlemnohjnkhaaGreat
