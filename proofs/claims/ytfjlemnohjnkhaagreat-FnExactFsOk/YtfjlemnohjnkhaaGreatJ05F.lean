/-
  Joined: TabM, MarkI, Puts.
-/
import Derived.Test.YtfjlemnohjnkhaaGreatJ04F
import Derived.Deep.DeepCutAuto
import Derived.Lib.AppendStr
namespace Go.Proofs.YtfjlemnohjnkhaaGreat
section
open Go.RowKit
/-- An inode, and where its lists lie. -/
structure InoR where
  D : InoD
  a1 : Option Addr
  c1 : Nat
  a2 : Option Addr
  c2 : Nat
  a3 : Option Addr
  c3 : Nat
def InoR.v (r : InoR) : Value := inoV r.D r.a1 r.c1 r.a2 r.c2 r.a3 r.c3
def InoR.rd (w : World) (r : InoR) : Prop := InoRd w r.D r.a1 r.a2 r.a3
theorem InoR.rd.keep {w w' : World} {r : InoR} (h : r.rd w) (hb : Below w.heap.size w w') : r.rd w' := InoRd.keep h hb
/-- The six cells of an inode. -/
def InoR.six (r : InoR) : List Value := [.int .i64 r.D.ino, .int .i64 r.D.kind, .int .i64 r.D.links, .slice r.a1 r.D.data.length r.c1, .slice r.a2 r.D.ents.length r.c2, .slice r.a3 r.D.attrs.length r.c3]
/-- The cells of a list of inodes. -/
def iv (rs : List InoR) : List Value := rs.flatMap InoR.six
theorem iv_cons (r : InoR) (rs : List InoR) : iv (r :: rs) = r.six ++ iv rs := rfl
theorem six_length (r : InoR) : r.six.length = 6 := rfl
theorem iv_length (rs : List InoR) : (iv rs).length = rs.length * 6 := by
  induction rs with
  | nil => rfl
  | cons r rs ih => rw [iv_cons, List.length_append, ih, six_length, List.length_cons]; omega
theorem iv_at (rs : List InoR) (i j : Nat) (r : InoR) (h : rs[i]? = some r) (hj : j < 6) : (iv rs)[i * 6 + j]? = r.six[j]? := by
  induction rs generalizing i with
  | nil => simp at h
  | cons q rs ih =>
    rw [iv_cons]
    cases i with
    | zero =>
      simp at h
      subst h
      rw [List.getElem?_append_left (by rw [six_length]; omega), Nat.zero_mul, Nat.zero_add]
    | succ i =>
      rw [List.getElem?_append_right (by rw [six_length]; omega), six_length, show (i + 1) * 6 + j - 6 = i * 6 + j by omega]
      exact ih i (by simpa using h)
theorem iv_set (rs : List InoR) (i : Nat) (r : InoR) (h : i < rs.length) : ((((((iv rs).set (i * 6) (.int .i64 r.D.ino)).set (i * 6 + 1) (.int .i64 r.D.kind)).set (i * 6 + 2) (.int .i64 r.D.links)).set (i * 6 + 3) (.slice r.a1 r.D.data.length r.c1)).set (i * 6 + 4) (.slice r.a2 r.D.ents.length r.c2)).set (i * 6 + 5) (.slice r.a3 r.D.attrs.length r.c3) = iv (rs.set i r) := by
  induction rs generalizing i with
  | nil => simp at h
  | cons q rs ih =>
    cases i with
    | zero => simp [iv_cons, InoR.six]
    | succ i =>
      have hl := six_length q
      have e : ∀ (l : List Value) (m : Nat) (x : Value), (q.six ++ l).set ((i + 1) * 6 + m) x = q.six ++ l.set (i * 6 + m) x := fun l m x => by
        rw [List.set_append_right _ _ (by rw [hl]; omega), hl, show (i + 1) * 6 + m - 6 = i * 6 + m by omega]
      have e0 : ∀ (l : List Value) (x : Value), (q.six ++ l).set ((i + 1) * 6) x = q.six ++ l.set (i * 6) x := fun l x => e l 0 x
      rw [iv_cons, e0, e, e, e, e, e, List.set_cons_succ, iv_cons, ih i (by simpa using h)]
/-- The six cells from an address on. -/
structure SixA (w : World) (b off : Nat) (r : InoR) : Prop where
  c0 : w.cell? ⟨b, off, none⟩ = some (.int .i64 r.D.ino)
  c1 : w.cell? ⟨b, off + 1, none⟩ = some (.int .i64 r.D.kind)
  c2 : w.cell? ⟨b, off + 2, none⟩ = some (.int .i64 r.D.links)
  c3 : w.cell? ⟨b, off + 3, none⟩ = some (.slice r.a1 r.D.data.length r.c1)
  c4 : w.cell? ⟨b, off + 4, none⟩ = some (.slice r.a2 r.D.ents.length r.c2)
  c5 : w.cell? ⟨b, off + 5, none⟩ = some (.slice r.a3 r.D.attrs.length r.c3)
theorem SixA.keep {w w' : World} {b off B : Nat} {r : InoR} (h : SixA w b off r) (hb : Below B w w') (hlt : b < B) : SixA w' b off r :=
  ⟨(hb.cell hlt).trans h.c0, (hb.cell hlt).trans h.c1, (hb.cell hlt).trans h.c2, (hb.cell hlt).trans h.c3, (hb.cell hlt).trans h.c4, (hb.cell hlt).trans h.c5⟩
theorem SixA.lt {w : World} {b off : Nat} {r : InoR} (h : SixA w b off r) : b < w.heap.size := World.block_lt_of_cell? w _ h.c0
/-- The inodes rs can be read from the address a on. -/
def RdI (w : World) (a : Option Addr) (rs : List InoR) : Prop :=
  rs = [] ∨ ∃ b off, a = some ⟨b, off, none⟩ ∧ ∀ i r, rs[i]? = some r → SixA w b (off + i * 6) r ∧ r.rd w
theorem RdI.lt {w : World} {a : Option Addr} {rs : List InoR} (h : RdI w a rs) (hz : rs ≠ []) : ∃ b off, a = some ⟨b, off, none⟩ ∧ b < w.heap.size ∧ ∀ i r, rs[i]? = some r → SixA w b (off + i * 6) r ∧ r.rd w := by
  rcases h with h | ⟨b, off, rfl, hc⟩
  · exact absurd h hz
  · obtain ⟨r, l, rfl⟩ := List.exists_cons_of_ne_nil hz
    exact ⟨b, off, rfl, (hc 0 r rfl).1.lt, hc⟩
theorem RdI.keep {w w' : World} {a : Option Addr} {rs : List InoR} (h : RdI w a rs) (hb : Below w.heap.size w w') : RdI w' a rs := by
  by_cases hz : rs = []
  · exact .inl hz
  · obtain ⟨b, off, rfl, hlt, hc⟩ := h.lt hz
    exact .inr ⟨b, off, rfl, fun i r hi => ⟨(hc i r hi).1.keep hb hlt, (hc i r hi).2.keep hb⟩⟩
/-- The block g is a row of inodes of the call's own. -/
def OwnI (w : World) (g n cap : Nat) (rs : List InoR) : Prop := w.ownsRow 0 85 6 (.slice (some ⟨g, 0, none⟩) n cap) n (iv rs)
theorem OwnI.len {w : World} {g n cap : Nat} {rs : List InoR} (h : OwnI w g n cap rs) : rs.length = n := by
  have := h.1
  rw [iv_length] at this
  omega
theorem OwnI.lt {w : World} {g n cap : Nat} {rs : List InoR} (h : OwnI w g n cap rs) : g < w.heap.size := (World.ownsRow.lt h g rfl).2
theorem OwnI.keep {w w' : World} {g n cap : Nat} {rs : List InoR} (h : OwnI w g n cap rs) (hb : Below w.heap.size w w') : OwnI w' g n cap rs := by
  have hlt := h.lt
  refine ⟨h.1, ?_⟩
  rcases h.2 with ⟨h', _⟩ | ⟨g', cap', cur, h', hb', hgg, rest⟩
  · simp at h'
  · refine .inr ⟨g', cap', cur, h', hb', ?_, rest⟩
    rw [hb.block g' (Array.getElem?_eq_some_iff.1 hgg).1]
    exact hgg
theorem OwnI.kept {w w' : World} {g n cap g2 : Nat} {rs : List InoR} (h : OwnI w g n cap rs) (hg : w.grownBy w' (some g2)) (hne : g ≠ g2) : OwnI w' g n cap rs := by
  refine ⟨h.1, ?_⟩
  rcases h.2 with ⟨h', _⟩ | ⟨g', cap', cur, h', hb', hgg, rest⟩
  · simp at h'
  · refine .inr ⟨g', cap', cur, h', hb', ?_, rest⟩
    simp only [Value.slice.injEq, Option.some.injEq, Addr.mk.injEq, and_true, true_and] at h'
    obtain ⟨rfl, rfl⟩ := h'
    rw [hg.block g (Array.getElem?_eq_some_iff.1 hgg).1 (by simpa using hne)]
    exact hgg
theorem OwnI.frozen {w : World} {g n cap : Nat} {rs : List InoR} (h : OwnI w g n cap rs) (i : Nat) : w.frozen? ⟨g, i, none⟩ = false := World.ownsRow.frozenAt h i
theorem OwnI.cell {w : World} {g n cap : Nat} {rs : List InoR} (h : OwnI w g n cap rs) (i j : Nat) (r : InoR) (hi : rs[i]? = some r) (hj : j < 6) : w.cell? ⟨g, i * 6 + j, none⟩ = r.six[j]? := by
  have hl := h.len
  have h2 := (List.getElem?_eq_some_iff.1 hi).1
  rw [World.ownsRow.cellAt h (i * 6 + j) (by omega)]
  exact iv_at rs i j r hi hj
theorem OwnI.six {w : World} {g n cap : Nat} {rs : List InoR} (h : OwnI w g n cap rs) (i : Nat) (r : InoR) (hi : rs[i]? = some r) : SixA w g (i * 6) r :=
  ⟨h.cell i 0 r hi (by omega), h.cell i 1 r hi (by omega), h.cell i 2 r hi (by omega), h.cell i 3 r hi (by omega), h.cell i 4 r hi (by omega), h.cell i 5 r hi (by omega)⟩
theorem ownI_stored {w : World} {g n cap : Nat} {rs : List InoR} (h : OwnI w g n cap rs) (k : Nat) (hk : k < n) (r : InoR) : OwnI ((((((w.setCell ⟨g, k * 6, none⟩ (.int .i64 r.D.ino)).setCell ⟨g, k * 6 + 1, none⟩ (.int .i64 r.D.kind)).setCell ⟨g, k * 6 + 2, none⟩ (.int .i64 r.D.links)).setCell ⟨g, k * 6 + 3, none⟩ (.slice r.a1 r.D.data.length r.c1)).setCell ⟨g, k * 6 + 4, none⟩ (.slice r.a2 r.D.ents.length r.c2)).setCell ⟨g, k * 6 + 5, none⟩ (.slice r.a3 r.D.attrs.length r.c3)) g n cap (rs.set k r) := by
  have hl := h.len
  have s0 := (World.ownsRow.stored h (k * 6) (.int .i64 r.D.ino)).1
  have s1 := (World.ownsRow.stored s0 (k * 6 + 1) (.int .i64 r.D.kind)).1
  have s2 := (World.ownsRow.stored s1 (k * 6 + 2) (.int .i64 r.D.links)).1
  have s3 := (World.ownsRow.stored s2 (k * 6 + 3) (.slice r.a1 r.D.data.length r.c1)).1
  have s4 := (World.ownsRow.stored s3 (k * 6 + 4) (.slice r.a2 r.D.ents.length r.c2)).1
  have s5 := (World.ownsRow.stored s4 (k * 6 + 5) (.slice r.a3 r.D.attrs.length r.c3)).1
  rw [iv_set rs k r (by omega)] at s5
  exact s5
/-- The lists of an inode are rows of the call's own, at or behind B. -/
def InoR.own (w : World) (B : Nat) (r : InoR) : Prop := ∃ g1 g2 g3, r.a1 = some ⟨g1, 0, none⟩ ∧ r.a2 = some ⟨g2, 0, none⟩ ∧ r.a3 = some ⟨g3, 0, none⟩ ∧ B ≤ g1 ∧ B ≤ g2 ∧ B ≤ g3 ∧ InoOwn w r.D g1 r.c1 g2 r.c2 g3 r.c3
theorem InoR.own.rd {w : World} {B : Nat} {r : InoR} (h : r.own w B) : r.rd w := by
  obtain ⟨g1, g2, g3, h1, h2, h3, _, _, _, ho⟩ := h
  unfold InoR.rd
  rw [h1, h2, h3]
  exact ho.rd
theorem InoR.own.keep {w w' : World} {B : Nat} {r : InoR} (h : r.own w B) (hb : Below w.heap.size w w') : r.own w' B := by
  obtain ⟨g1, g2, g3, h1, h2, h3, k1, k2, k3, ho⟩ := h
  exact ⟨g1, g2, g3, h1, h2, h3, k1, k2, k3, ho.keep hb⟩
theorem InoR.own.kept {w w' : World} {B g : Nat} {r : InoR} (h : r.own w B) (hg : w.grownBy w' (some g)) (hlt : g < B) : r.own w' B := by
  obtain ⟨g1, g2, g3, h1, h2, h3, k1, k2, k3, ho⟩ := h
  exact ⟨g1, g2, g3, h1, h2, h3, k1, k2, k3, ho.data.kept hg (by omega), ho.byt, ho.ents.kept hg (by omega), ho.attrs.kept hg (by omega)⟩
theorem OwnI.rd {w : World} {g n cap B : Nat} {rs : List InoR} (h : OwnI w g n cap rs) (ho : ∀ r ∈ rs, r.own w B) : RdI w (some ⟨g, 0, none⟩) rs :=
  .inr ⟨g, 0, rfl, fun i r hi => by
    rw [Nat.zero_add]
    exact ⟨h.six i r hi, (ho r (List.mem_of_getElem? hi)).rd⟩⟩
/-- The inode with nothing. -/
def inoZ : InoR := ⟨⟨0, 0, 0, [], [], []⟩, none, 0, none, 0, none, 0⟩
theorem made_ownI {w : World} {g n : Nat} (h : w.ownsRow 0 85 6 (.slice (some ⟨g, 0, none⟩) n n) n (madeCells (Value.agg #[.int .i64 0, .int .i64 0, .int .i64 0, .slice none 0 0, .slice none 0 0, .slice none 0 0]).cells (n * 6)).toList) : OwnI w g n n (List.replicate n inoZ) := by
  unfold OwnI
  have e : (madeCells (Value.agg #[.int .i64 0, .int .i64 0, .int .i64 0, .slice none 0 0, .slice none 0 0, .slice none 0 0]).cells (n * 6)).toList = iv (List.replicate n inoZ) := by
    apply List.ext_getElem?
    intro m
    by_cases hm : m < n * 6
    · have h1 := iv_at (List.replicate n inoZ) (m / 6) (m % 6) inoZ (by rw [List.getElem?_replicate, if_pos (by omega)]) (by omega)
      rw [show m / 6 * 6 + m % 6 = m by omega] at h1
      rw [h1]
      have hlen : (madeCells (Value.agg #[.int .i64 0, .int .i64 0, .int .i64 0, .slice none 0 0, .slice none 0 0, .slice none 0 0]).cells (n * 6)).toList.length = n * 6 := by simp [madeCells]
      rw [List.getElem?_eq_getElem (by rw [hlen]; exact hm)]
      simp only [madeCells, Value.cells]
      rcases (show m % 6 = 0 ∨ m % 6 = 1 ∨ m % 6 = 2 ∨ m % 6 = 3 ∨ m % 6 = 4 ∨ m % 6 = 5 by omega) with e | e | e | e | e | e <;> simp [e, inoZ, InoR.six]
    · rw [List.getElem?_eq_none (by simp [madeCells]; omega), List.getElem?_eq_none (by rw [iv_length]; simp; omega)]
  rw [← e]
  exact h
end

section
open Go.RowKit
/-- v is a row of the call's own of pairs; nil, if there are none. -/
def OwnQ (e : TypeId) (w : World) (v : Value) (n : Nat) (ps : List VP) : Prop := w.ownsRow 0 e 2 v n (pv ps)
theorem OwnQ.cases {e : TypeId} {w : World} {v : Value} {n : Nat} {ps : List VP} (h : OwnQ e w v n ps) : (v = .slice none 0 0 ∧ n = 0 ∧ ps = []) ∨ ∃ g c, v = .slice (some ⟨g, 0, none⟩) n c ∧ OwnP e w g n c ps := by
  have hl : ps.length = n := by have := h.1; rw [pv_length] at this; omega
  rcases h.2 with ⟨h1, h2⟩ | ⟨g, cap, cur, rfl, rest⟩
  · subst h2; exact .inl ⟨h1, rfl, List.length_eq_zero_iff.1 hl⟩
  · exact .inr ⟨g, cap, rfl, h.1, .inr ⟨g, cap, cur, rfl, rest⟩⟩
theorem OwnP.q {e : TypeId} {w : World} {g n c : Nat} {ps : List VP} (h : OwnP e w g n c ps) : OwnQ e w (.slice (some ⟨g, 0, none⟩) n c) n ps := h
theorem OwnQ.keep {e : TypeId} {w w' : World} {v : Value} {n : Nat} {ps : List VP} (h : OwnQ e w v n ps) (hb : Below w.heap.size w w') : OwnQ e w' v n ps := by
  refine ⟨h.1, ?_⟩
  rcases h.2 with h' | ⟨g', cap', cur, h', hb', hgg, rest⟩
  · exact .inl h'
  · exact .inr ⟨g', cap', cur, h', hb', (hb.block g' (Array.getElem?_eq_some_iff.1 hgg).1).trans hgg, rest⟩
end

section
open Go.RowKit
/-- v is a row of the call's own, at or behind B, of the bytes zs; nil, if there are none. -/
def OwnV (B : Nat) (w : World) (v : Value) (n : Nat) (zs : List Int) : Prop := w.ownsRow B 5 1 v n (zs.map (Value.int .u8))
theorem OwnV.len {B : Nat} {w : World} {v : Value} {n : Nat} {zs : List Int} (h : OwnV B w v n zs) : zs.length = n := by simpa using h.1
theorem OwnV.block {B : Nat} {w : World} {v : Value} {n k : Nat} {zs : List Int} (h : OwnV B w v n zs) (hk : v.ownBlock = some k) : B ≤ k ∧ ∃ cur, w.heap[k]? = some (.cells cur 5 (0, 0)) := by
  rcases h.2 with ⟨rfl, _⟩ | ⟨g, cap, cur, rfl, hb, hg, _⟩
  · simp [Value.ownBlock] at hk
  · simp [Value.ownBlock] at hk
    subst hk
    exact ⟨hb, cur, hg⟩
theorem OwnV.alloc {B : Nat} {w : World} {v : Value} {n : Nat} {zs : List Int} (h : OwnV B w v n zs) (o : Obj) : OwnV B (w.alloc o) v n zs := World.ownsRow.alloc h o
theorem Blk.row {B : Nat} {w w' : World} {v : Value} {n ad : Nat} {zs : List Int} {t : TypeId} {vs : Array Value} (h : Blk w ad t vs) (ht : t ≠ 5) (ho : OwnV B w v n zs) (hg : w.grownBy w' v.ownBlock) : Blk w' ad t vs := by
  refine (hg.block ad h.lt ?_).trans h
  intro e
  obtain ⟨_, cur, hc⟩ := ho.block e.symm
  rw [show w.heap[ad]? = _ from h] at hc
  simp at hc
  exact ht hc.2
theorem OwnV.some {B : Nat} {w : World} {v : Value} {n : Nat} {zs : List Int} (h : OwnV B w v n zs) (hn : n ≠ 0) : ∃ g c, v = .slice (some ⟨g, 0, none⟩) n c ∧ B ≤ g ∧ Own w g n c zs := by
  rcases h.2 with ⟨rfl, h0⟩ | ⟨g, cap, cur, rfl, hb, hg, rest⟩
  · exact absurd h0 hn
  · exact ⟨g, cap, rfl, hb, h.1, .inr ⟨g, cap, cur, rfl, Nat.zero_le _, hg, rest⟩⟩
end
end Go.Proofs.YtfjlemnohjnkhaaGreat
