/-
  Joined: InoOpen, SzIno, Six, TabM, ToTab.
-/
import Derived.Test.YtmfimoccemgoiaaGreatDoorJ01B
import Derived.ProofKit
import Derived.ChangeOld
import Derived.Below
namespace Go.Proofs.YtmfimoccemgoiaaGreatDoor
section
open Go.ChangeShapes Go.WideShapes Go.ChangeAt Go.RowKit
section
variable {H : Type} {enc : TypeId × Value → H} {w : World} {base : Nat} {held : Bool}
theorem cells_two {a : Addr} {cs : List Value} (h : w.cells? base a 2 = some cs) : ∃ v0 v1, cs = [v0, v1] ∧ w.cell? a = some v0 ∧ w.cell? (a.add 1) = some v1 := by
  unfold World.cells? at h
  split at h
  · have e : List.range 2 = [0, 1] := rfl
    rw [e] at h
    simp only [List.mapM_cons, List.mapM_nil, Option.bind_eq_bind, Option.pure_def, Option.bind_eq_some_iff, Option.some.injEq] at h
    obtain ⟨v0, h0, _, ⟨v1, h1, _, rfl, rfl⟩, rfl⟩ := h
    exact ⟨v0, v1, rfl, by simpa [Addr.add] using h0, h1⟩
  · simp at h
/-- A slice of pairs that came in, opened. -/
theorem open_pairs {P : Program} {α : Type} [Inhabited α] (en : α → VP) (R : α → Prop) {t e : TypeId} {fuel : Nat} {cs : List Value} {x : DataW H × List MemPlace} (ht : P.underlying t = some (.slice e)) (hc : P.cellsOf e = 2)
    (hel : ∀ n cs' y, DataW.trod enc P w base (fun _ => true) held n e cs' = some y → ∃ q, cs' = [(en q).1, (en q).2] ∧ R q)
    (h : DataW.trod enc P w base (fun _ => true) held fuel t cs = some x) :
    ∃ (a : Option Addr) (len cap : Nat) (es : List α), cs = [.slice a len cap] ∧ len ≤ maxLen ∧ es.length = len ∧ (∀ q ∈ es, R q) ∧ RdP w a (es.map en) := by
  rcases Deep.open_slice ht h with ⟨rfl, _⟩ | ⟨a, len, cap, m, n, D, Pl, rfl, _, hl, hm, hmm, _, hx⟩
  · exact ⟨none, 0, 0, [], rfl, Nat.zero_le _, rfl, fun q hq => by simp at hq, .inl rfl⟩
  · simp only [if_true] at hmm
    subst hmm
    rw [hc] at hx
    obtain ⟨f, hf⟩ := Deep.choose_lt (α := α) (n := len) (p := fun i q => (w.cell? (a.add (i * 2)) = some (en q).1 ∧ w.cell? ((a.add (i * 2)).add 1) = some (en q).2) ∧ R q) (fun i hi => by
      obtain ⟨cs', h1, h2⟩ := hx i (by omega)
      obtain ⟨q, hq, hR⟩ := hel n cs' _ h2
      obtain ⟨v0, v1, e, k0, k1⟩ := cells_two h1
      rw [hq] at e
      simp only [List.cons.injEq, and_true] at e
      exact ⟨q, ⟨by rw [k0, e.1], by rw [k1, e.2]⟩, hR⟩)
    refine ⟨some a, len, m, (List.range len).map f, rfl, Nat.le_trans hl hm, by simp, ?_, ?_⟩
    · intro q hq
      obtain ⟨i, hi, rfl⟩ := List.mem_map.1 hq
      exact (hf i (List.mem_range.1 hi)).2
    · by_cases h0 : len = 0
      · subst h0; exact .inl rfl
      · obtain ⟨b, off, spot⟩ := a
        have hc0 := (hf 0 (by omega)).1.1
        have hspot : spot = none := by simpa [Addr.add] using World.cell?_spot hc0
        subst hspot
        refine .inr ⟨b, off, rfl, fun i hi => ?_⟩
        simp only [List.length_map, List.length_range] at hi
        obtain ⟨⟨k0, k1⟩, _⟩ := hf i hi
        have e1 : (⟨b, off, none⟩ : Addr).add (i * 2) = ⟨b, off + i * 2, none⟩ := by simp [Addr.add]
        have e2 : (⟨b, off + i * 2, none⟩ : Addr).add 1 = ⟨b, off + i * 2 + 1, none⟩ := by simp [Addr.add]
        rw [e1] at k0 k1
        rw [e2] at k1
        have ed : (List.map en (List.map f (List.range len))).getD i (undef, undef) = en (f i) := by simp [hi]
        rw [ed]
        exact ⟨k0, k1⟩
/-- What is known of an inode that came in. -/
structure InoIn (D : InoD) : Prop where
  ino : (Lit.int .i64 D.ino).wf = true
  kind : (Lit.int .i64 D.kind).wf = true
  links : (Lit.int .i64 D.links).wf = true
  data : D.data.length ≤ maxLen
  ents : D.ents.length ≤ maxLen
  attrs : D.attrs.length ≤ maxLen
  entsz : ∀ q ∈ D.ents, q.1.size ≤ maxLen ∧ (Lit.int .i64 q.2).wf = true
  attrsz : ∀ q ∈ D.attrs, q.1.size ≤ maxLen ∧ q.2.size ≤ maxLen
theorem list2 {α : Type} {l : List α} (h : l.length = 2) : ∃ a b, l = [a, b] := by
  match l, h with
  | [a, b], _ => exact ⟨a, b, rfl⟩
theorem list6 {α : Type} {l : List α} (h : l.length = 6) : ∃ a b c d e f, l = [a, b, c, d, e, f] := by
  match l, h with
  | [a, b, c, d, e, f], _ => exact ⟨a, b, c, d, e, f, rfl⟩
end
end

section
open Go.RowKit
/-- An inode whose lists and texts are small. -/
structure InoSmall (D : InoD) : Prop where
  data : D.data.length ≤ 1048576
  ents : D.ents.length ≤ 1048576
  attrs : D.attrs.length ≤ 1048576
  entsz : ∀ q ∈ D.ents, q.1.size ≤ 1048576
  attrsz : ∀ q ∈ D.attrs, q.1.size ≤ 1048576 ∧ q.2.size ≤ 1048576
end

section
open Go.RowKit
/-- The six cells of an inode in block B. -/
structure Six (W : World) (B : Nat) (v0 v1 v2 v3 v4 v5 : Value) : Prop where
  c0 : W.cell? ⟨B, 0, none⟩ = some v0
  c1 : W.cell? ⟨B, 1, none⟩ = some v1
  c2 : W.cell? ⟨B, 2, none⟩ = some v2
  c3 : W.cell? ⟨B, 3, none⟩ = some v3
  c4 : W.cell? ⟨B, 4, none⟩ = some v4
  c5 : W.cell? ⟨B, 5, none⟩ = some v5
theorem Blk.six {W : World} {B : Nat} {t : TypeId} {v0 v1 v2 v3 v4 v5 : Value} (h : Blk W B t #[v0, v1, v2, v3, v4, v5]) : Six W B v0 v1 v2 v3 v4 v5 :=
  ⟨h.cell 0, h.cell 1, h.cell 2, h.cell 3, h.cell 4, h.cell 5⟩
/-- The cells of an inode. -/
def inoC (D : InoD) (a1 : Option Addr) (c1 : Nat) (a2 : Option Addr) (c2 : Nat) (a3 : Option Addr) (c3 : Nat) : Array Value :=
  #[.int .i64 D.ino, .int .i64 D.kind, .int .i64 D.links, .slice a1 D.data.length c1, .slice a2 D.ents.length c2, .slice a3 D.attrs.length c3]
/-- The box of an inode. -/
def Box (W : World) (B : Nat) (t : TypeId) (D : InoD) (a1 : Option Addr) (c1 : Nat) (a2 : Option Addr) (c2 : Nat) (a3 : Option Addr) (c3 : Nat) : Prop := Blk W B t (inoC D a1 c1 a2 c2 a3 c3)
theorem Box.keep {W W' : World} {B : Nat} {t : TypeId} {D : InoD} {a1 a2 a3 : Option Addr} {c1 c2 c3 : Nat} (h : Box W B t D a1 c1 a2 c2 a3 c3) (hb : Below W.heap.size W W') : Box W' B t D a1 c1 a2 c2 a3 c3 := Blk.keep h hb
theorem Box.lt {W : World} {B : Nat} {t : TypeId} {D : InoD} {a1 a2 a3 : Option Addr} {c1 c2 c3 : Nat} (h : Box W B t D a1 c1 a2 c2 a3 c3) : B < W.heap.size := Blk.lt h
theorem Box.six {W : World} {B : Nat} {t : TypeId} {D : InoD} {a1 a2 a3 : Option Addr} {c1 c2 c3 : Nat} (h : Box W B t D a1 c1 a2 c2 a3 c3) : Six W B (.int .i64 D.ino) (.int .i64 D.kind) (.int .i64 D.links) (.slice a1 D.data.length c1) (.slice a2 D.ents.length c2) (.slice a3 D.attrs.length c3) := Blk.six h
theorem Box.new (W : World) (t : TypeId) (D : InoD) (a1 a2 a3 : Option Addr) (c1 c2 c3 : Nat) : Box (W.alloc (.cells (inoC D a1 c1 a2 c2 a3 c3) t)) W.heap.size t D a1 c1 a2 c2 a3 c3 := Blk.new W t _
end

section
open Go.RowKit
/-- An inode, and where its lists lie. -/
structure InoR where
  D : InoD
  a1 : Option Addr
  c1 : Nat
  a2 : Option Addr
  c2 : Nat
  a3 : Option Addr
  c3 : Nat
def InoR.v (r : InoR) : Value := inoV r.D r.a1 r.c1 r.a2 r.c2 r.a3 r.c3
def InoR.rd (w : World) (r : InoR) : Prop := InoRd w r.D r.a1 r.a2 r.a3
theorem InoR.rd.keep {w w' : World} {r : InoR} (h : r.rd w) (hb : Below w.heap.size w w') : r.rd w' := InoRd.keep h hb
/-- The six cells of an inode. -/
def InoR.six (r : InoR) : List Value := [.int .i64 r.D.ino, .int .i64 r.D.kind, .int .i64 r.D.links, .slice r.a1 r.D.data.length r.c1, .slice r.a2 r.D.ents.length r.c2, .slice r.a3 r.D.attrs.length r.c3]
/-- The cells of a list of inodes. -/
def iv (rs : List InoR) : List Value := rs.flatMap InoR.six
theorem iv_cons (r : InoR) (rs : List InoR) : iv (r :: rs) = r.six ++ iv rs := rfl
theorem iv_append (rs ts : List InoR) : iv (rs ++ ts) = iv rs ++ iv ts := by simp [iv]
theorem six_length (r : InoR) : r.six.length = 6 := rfl
theorem iv_length (rs : List InoR) : (iv rs).length = rs.length * 6 := by
  induction rs with
  | nil => rfl
  | cons r rs ih => rw [iv_cons, List.length_append, ih, six_length, List.length_cons]; omega
theorem iv_at (rs : List InoR) (i j : Nat) (r : InoR) (h : rs[i]? = some r) (hj : j < 6) : (iv rs)[i * 6 + j]? = r.six[j]? := by
  induction rs generalizing i with
  | nil => simp at h
  | cons q rs ih =>
    rw [iv_cons]
    cases i with
    | zero =>
      simp at h
      subst h
      rw [List.getElem?_append_left (by rw [six_length]; omega), Nat.zero_mul, Nat.zero_add]
    | succ i =>
      rw [List.getElem?_append_right (by rw [six_length]; omega), six_length, show (i + 1) * 6 + j - 6 = i * 6 + j by omega]
      exact ih i (by simpa using h)
theorem iv_set (rs : List InoR) (i : Nat) (r : InoR) (h : i < rs.length) : ((((((iv rs).set (i * 6) (.int .i64 r.D.ino)).set (i * 6 + 1) (.int .i64 r.D.kind)).set (i * 6 + 2) (.int .i64 r.D.links)).set (i * 6 + 3) (.slice r.a1 r.D.data.length r.c1)).set (i * 6 + 4) (.slice r.a2 r.D.ents.length r.c2)).set (i * 6 + 5) (.slice r.a3 r.D.attrs.length r.c3) = iv (rs.set i r) := by
  induction rs generalizing i with
  | nil => simp at h
  | cons q rs ih =>
    cases i with
    | zero => simp [iv_cons, InoR.six]
    | succ i =>
      have hl := six_length q
      have e : ∀ (l : List Value) (m : Nat) (x : Value), (q.six ++ l).set ((i + 1) * 6 + m) x = q.six ++ l.set (i * 6 + m) x := fun l m x => by
        rw [List.set_append_right _ _ (by rw [hl]; omega), hl, show (i + 1) * 6 + m - 6 = i * 6 + m by omega]
      have e0 : ∀ (l : List Value) (x : Value), (q.six ++ l).set ((i + 1) * 6) x = q.six ++ l.set (i * 6) x := fun l x => e l 0 x
      rw [iv_cons, e0, e, e, e, e, e, List.set_cons_succ, iv_cons, ih i (by simpa using h)]
/-- The six cells from an address on. -/
structure SixA (w : World) (b off : Nat) (r : InoR) : Prop where
  c0 : w.cell? ⟨b, off, none⟩ = some (.int .i64 r.D.ino)
  c1 : w.cell? ⟨b, off + 1, none⟩ = some (.int .i64 r.D.kind)
  c2 : w.cell? ⟨b, off + 2, none⟩ = some (.int .i64 r.D.links)
  c3 : w.cell? ⟨b, off + 3, none⟩ = some (.slice r.a1 r.D.data.length r.c1)
  c4 : w.cell? ⟨b, off + 4, none⟩ = some (.slice r.a2 r.D.ents.length r.c2)
  c5 : w.cell? ⟨b, off + 5, none⟩ = some (.slice r.a3 r.D.attrs.length r.c3)
theorem SixA.keep {w w' : World} {b off B : Nat} {r : InoR} (h : SixA w b off r) (hb : Below B w w') (hlt : b < B) : SixA w' b off r :=
  ⟨(hb.cell hlt).trans h.c0, (hb.cell hlt).trans h.c1, (hb.cell hlt).trans h.c2, (hb.cell hlt).trans h.c3, (hb.cell hlt).trans h.c4, (hb.cell hlt).trans h.c5⟩
theorem SixA.lt {w : World} {b off : Nat} {r : InoR} (h : SixA w b off r) : b < w.heap.size := World.block_lt_of_cell? w _ h.c0
/-- The inodes rs can be read from the address a on. -/
def RdI (w : World) (a : Option Addr) (rs : List InoR) : Prop :=
  rs = [] ∨ ∃ b off, a = some ⟨b, off, none⟩ ∧ ∀ i r, rs[i]? = some r → SixA w b (off + i * 6) r ∧ r.rd w
theorem RdI.lt {w : World} {a : Option Addr} {rs : List InoR} (h : RdI w a rs) (hz : rs ≠ []) : ∃ b off, a = some ⟨b, off, none⟩ ∧ b < w.heap.size ∧ ∀ i r, rs[i]? = some r → SixA w b (off + i * 6) r ∧ r.rd w := by
  rcases h with h | ⟨b, off, rfl, hc⟩
  · exact absurd h hz
  · obtain ⟨r, l, rfl⟩ := List.exists_cons_of_ne_nil hz
    exact ⟨b, off, rfl, (hc 0 r rfl).1.lt, hc⟩
theorem RdI.keep {w w' : World} {a : Option Addr} {rs : List InoR} (h : RdI w a rs) (hb : Below w.heap.size w w') : RdI w' a rs := by
  by_cases hz : rs = []
  · exact .inl hz
  · obtain ⟨b, off, rfl, hlt, hc⟩ := h.lt hz
    exact .inr ⟨b, off, rfl, fun i r hi => ⟨(hc i r hi).1.keep hb hlt, (hc i r hi).2.keep hb⟩⟩
/-- The block g is a row of inodes of the call's own. -/
def OwnI (w : World) (g n cap : Nat) (rs : List InoR) : Prop := w.ownsRow 0 68 6 (.slice (some ⟨g, 0, none⟩) n cap) n (iv rs)
theorem OwnI.len {w : World} {g n cap : Nat} {rs : List InoR} (h : OwnI w g n cap rs) : rs.length = n := by
  have := h.1
  rw [iv_length] at this
  omega
theorem OwnI.lt {w : World} {g n cap : Nat} {rs : List InoR} (h : OwnI w g n cap rs) : g < w.heap.size := (World.ownsRow.lt h g rfl).2
theorem OwnI.keep {w w' : World} {g n cap : Nat} {rs : List InoR} (h : OwnI w g n cap rs) (hb : Below w.heap.size w w') : OwnI w' g n cap rs := by
  have hlt := h.lt
  refine ⟨h.1, ?_⟩
  rcases h.2 with ⟨h', _⟩ | ⟨g', cap', cur, h', hb', hgg, rest⟩
  · simp at h'
  · refine .inr ⟨g', cap', cur, h', hb', ?_, rest⟩
    rw [hb.block g' (Array.getElem?_eq_some_iff.1 hgg).1]
    exact hgg
theorem OwnI.kept {w w' : World} {g n cap g2 : Nat} {rs : List InoR} (h : OwnI w g n cap rs) (hg : w.grownBy w' (some g2)) (hne : g ≠ g2) : OwnI w' g n cap rs := by
  refine ⟨h.1, ?_⟩
  rcases h.2 with ⟨h', _⟩ | ⟨g', cap', cur, h', hb', hgg, rest⟩
  · simp at h'
  · refine .inr ⟨g', cap', cur, h', hb', ?_, rest⟩
    simp only [Value.slice.injEq, Option.some.injEq, Addr.mk.injEq, and_true, true_and] at h'
    obtain ⟨rfl, rfl⟩ := h'
    rw [hg.block g (Array.getElem?_eq_some_iff.1 hgg).1 (by simpa using hne)]
    exact hgg
theorem OwnI.frozen {w : World} {g n cap : Nat} {rs : List InoR} (h : OwnI w g n cap rs) (i : Nat) : w.frozen? ⟨g, i, none⟩ = false := World.ownsRow.frozenAt h i
theorem OwnI.cell {w : World} {g n cap : Nat} {rs : List InoR} (h : OwnI w g n cap rs) (i j : Nat) (r : InoR) (hi : rs[i]? = some r) (hj : j < 6) : w.cell? ⟨g, i * 6 + j, none⟩ = r.six[j]? := by
  have hl := h.len
  have h2 := (List.getElem?_eq_some_iff.1 hi).1
  rw [World.ownsRow.cellAt h (i * 6 + j) (by omega)]
  exact iv_at rs i j r hi hj
theorem OwnI.six {w : World} {g n cap : Nat} {rs : List InoR} (h : OwnI w g n cap rs) (i : Nat) (r : InoR) (hi : rs[i]? = some r) : SixA w g (i * 6) r :=
  ⟨h.cell i 0 r hi (by omega), h.cell i 1 r hi (by omega), h.cell i 2 r hi (by omega), h.cell i 3 r hi (by omega), h.cell i 4 r hi (by omega), h.cell i 5 r hi (by omega)⟩
theorem ownI_stored {w : World} {g n cap : Nat} {rs : List InoR} (h : OwnI w g n cap rs) (k : Nat) (hk : k < n) (r : InoR) : OwnI ((((((w.setCell ⟨g, k * 6, none⟩ (.int .i64 r.D.ino)).setCell ⟨g, k * 6 + 1, none⟩ (.int .i64 r.D.kind)).setCell ⟨g, k * 6 + 2, none⟩ (.int .i64 r.D.links)).setCell ⟨g, k * 6 + 3, none⟩ (.slice r.a1 r.D.data.length r.c1)).setCell ⟨g, k * 6 + 4, none⟩ (.slice r.a2 r.D.ents.length r.c2)).setCell ⟨g, k * 6 + 5, none⟩ (.slice r.a3 r.D.attrs.length r.c3)) g n cap (rs.set k r) := by
  have hl := h.len
  have s0 := (World.ownsRow.stored h (k * 6) (.int .i64 r.D.ino)).1
  have s1 := (World.ownsRow.stored s0 (k * 6 + 1) (.int .i64 r.D.kind)).1
  have s2 := (World.ownsRow.stored s1 (k * 6 + 2) (.int .i64 r.D.links)).1
  have s3 := (World.ownsRow.stored s2 (k * 6 + 3) (.slice r.a1 r.D.data.length r.c1)).1
  have s4 := (World.ownsRow.stored s3 (k * 6 + 4) (.slice r.a2 r.D.ents.length r.c2)).1
  have s5 := (World.ownsRow.stored s4 (k * 6 + 5) (.slice r.a3 r.D.attrs.length r.c3)).1
  rw [iv_set rs k r (by omega)] at s5
  exact s5
/-- The lists of an inode are rows of the call's own, at or behind B. -/
def InoR.own (w : World) (B : Nat) (r : InoR) : Prop := ∃ g1 g2 g3, r.a1 = some ⟨g1, 0, none⟩ ∧ r.a2 = some ⟨g2, 0, none⟩ ∧ r.a3 = some ⟨g3, 0, none⟩ ∧ B ≤ g1 ∧ B ≤ g2 ∧ B ≤ g3 ∧ InoOwn w r.D g1 r.c1 g2 r.c2 g3 r.c3
theorem InoR.own.rd {w : World} {B : Nat} {r : InoR} (h : r.own w B) : r.rd w := by
  obtain ⟨g1, g2, g3, h1, h2, h3, _, _, _, ho⟩ := h
  unfold InoR.rd
  rw [h1, h2, h3]
  exact ho.rd
theorem InoR.own.keep {w w' : World} {B : Nat} {r : InoR} (h : r.own w B) (hb : Below w.heap.size w w') : r.own w' B := by
  obtain ⟨g1, g2, g3, h1, h2, h3, k1, k2, k3, ho⟩ := h
  exact ⟨g1, g2, g3, h1, h2, h3, k1, k2, k3, ho.keep hb⟩
theorem InoR.own.kept {w w' : World} {B g : Nat} {r : InoR} (h : r.own w B) (hg : w.grownBy w' (some g)) (hlt : g < B) : r.own w' B := by
  obtain ⟨g1, g2, g3, h1, h2, h3, k1, k2, k3, ho⟩ := h
  exact ⟨g1, g2, g3, h1, h2, h3, k1, k2, k3, ho.data.kept hg (by omega), ho.byt, ho.ents.kept hg (by omega), ho.attrs.kept hg (by omega)⟩
theorem OwnI.rd {w : World} {g n cap B : Nat} {rs : List InoR} (h : OwnI w g n cap rs) (ho : ∀ r ∈ rs, r.own w B) : RdI w (some ⟨g, 0, none⟩) rs :=
  .inr ⟨g, 0, rfl, fun i r hi => by
    rw [Nat.zero_add]
    exact ⟨h.six i r hi, (ho r (List.mem_of_getElem? hi)).rd⟩⟩
/-- The inode with nothing. -/
def inoZ : InoR := ⟨⟨0, 0, 0, [], [], []⟩, none, 0, none, 0, none, 0⟩
theorem made_ownI {w : World} {g n : Nat} (h : w.ownsRow 0 68 6 (.slice (some ⟨g, 0, none⟩) n n) n (madeCells (Value.agg #[.int .i64 0, .int .i64 0, .int .i64 0, .slice none 0 0, .slice none 0 0, .slice none 0 0]).cells (n * 6)).toList) : OwnI w g n n (List.replicate n inoZ) := by
  unfold OwnI
  have e : (madeCells (Value.agg #[.int .i64 0, .int .i64 0, .int .i64 0, .slice none 0 0, .slice none 0 0, .slice none 0 0]).cells (n * 6)).toList = iv (List.replicate n inoZ) := by
    apply List.ext_getElem?
    intro m
    by_cases hm : m < n * 6
    · have h1 := iv_at (List.replicate n inoZ) (m / 6) (m % 6) inoZ (by rw [List.getElem?_replicate, if_pos (by omega)]) (by omega)
      rw [show m / 6 * 6 + m % 6 = m by omega] at h1
      rw [h1]
      have hlen : (madeCells (Value.agg #[.int .i64 0, .int .i64 0, .int .i64 0, .slice none 0 0, .slice none 0 0, .slice none 0 0]).cells (n * 6)).toList.length = n * 6 := by simp [madeCells]
      rw [List.getElem?_eq_getElem (by rw [hlen]; exact hm)]
      simp only [madeCells, Value.cells]
      rcases (show m % 6 = 0 ∨ m % 6 = 1 ∨ m % 6 = 2 ∨ m % 6 = 3 ∨ m % 6 = 4 ∨ m % 6 = 5 by omega) with e | e | e | e | e | e <;> simp [e, inoZ, InoR.six]
    · rw [List.getElem?_eq_none (by simp [madeCells]; omega), List.getElem?_eq_none (by rw [iv_length]; simp; omega)]
  rw [← e]
  exact h
end

section
open Go.RowKit
theorem Tryz.infoInode : (Tryz.prog.info? 68).map (fun i => (i.zero, i.size, i.bytes)) = some (some (.agg #[.int .i64 0, .int .i64 0, .int .i64 0, .slice none 0 0, .slice none 0 0, .slice none 0 0]), 6, 96) := by kernel_rfl
/-- What a copy of a row of inodes is: the same data, in rows of the call's own behind B. -/
def Cpd (w : World) (B : Nat) (rs ts : List InoR) : Prop := ts.map InoR.D = rs.map InoR.D ∧ ∀ r ∈ ts, r.own w B
theorem gr_more {w w1 : World} {g : Nat} (h : w.grownBy w1 (some g)) (j : Nat) (v : Value) : w.grownBy (w1.setCell ⟨g, j, none⟩ v) (some g) :=
  ⟨h.os, h.tape, h.output, by rw [size_setC]; exact h.size, fun m hm hk => (heap_setCell_other w1 ⟨g, j, none⟩ m v (fun e => hk (by simp [e]))).trans (h.block m hm hk)⟩
theorem six_gr (w : World) (g k : Nat) (v0 v1 v2 v3 v4 v5 : Value) : w.grownBy ((((((w.setCell ⟨g, k, none⟩ v0).setCell ⟨g, k + 1, none⟩ v1).setCell ⟨g, k + 2, none⟩ v2).setCell ⟨g, k + 3, none⟩ v3).setCell ⟨g, k + 4, none⟩ v4).setCell ⟨g, k + 5, none⟩ v5) (some g) :=
  gr_more (gr_more (gr_more (gr_more (gr_more (gr_setC w g k v0) (k + 1) v1) (k + 2) v2) (k + 3) v3) (k + 4) v4) (k + 5) v5
theorem set_mid {α : Type} (l : List α) (x z : α) (m : Nat) (h : 0 < m) : (l ++ List.replicate m z).set l.length x = (l ++ [x]) ++ List.replicate (m - 1) z := by
  obtain ⟨m, rfl⟩ : ∃ q, m = q + 1 := ⟨m - 1, by omega⟩
  rw [List.set_append_right _ _ (Nat.le_refl _), Nat.sub_self, List.replicate_succ, List.set_cons_zero]
  simp
end
end Go.Proofs.YtmfimoccemgoiaaGreatDoor
