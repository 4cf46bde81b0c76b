/-
  Joined: Pairs, Inode, SzIno, Six, MarkI, Puts, MarkIno, Kept, MarkG.
-/
import Derived.Test.YtgcmpimckpnemaaA1T
import Derived.Deep.Slices
import Derived.ProofKit
import Derived.ChangeOld
import Derived.Below
import Derived.Deep.DeepCutAuto
import Derived.Lib.AppendStr
import Derived.Lib.ConvBytes
import Derived.Deep.RegionHeld3
import Derived.Deep.AppendLies
namespace Go.Proofs.Ytgcmpimckpnemaa
section
open Go.RowKit
abbrev VP := Value × Value
/-- The cells of pairs. -/
def pv (ps : List VP) : List Value := ps.flatMap fun p => [p.1, p.2]
theorem pv_length (ps : List VP) : (pv ps).length = ps.length * 2 := by
  induction ps with
  | nil => rfl
  | cons p ps ih => simp only [pv, List.flatMap_cons, List.length_append, List.length_cons, List.length_nil] at ih ⊢; omega
theorem pv_append (ps qs : List VP) : pv (ps ++ qs) = pv ps ++ pv qs := by simp [pv]
theorem pv_at (ps : List VP) (i : Nat) (h : i < ps.length) : (pv ps)[i * 2]? = some (ps.getD i (undef, undef)).1 ∧ (pv ps)[i * 2 + 1]? = some (ps.getD i (undef, undef)).2 := by
  induction ps generalizing i with
  | nil => simp at h
  | cons p ps ih =>
    cases i with
    | zero => simp [pv]
    | succ i =>
      have hi := ih i (by simpa using h)
      have e : (i + 1) * 2 = i * 2 + 2 := by omega
      simp only [pv, List.flatMap_cons, List.cons_append, List.nil_append] at hi ⊢
      rw [e]
      simp only [List.getElem?_cons_succ, List.getD_cons_succ]
      exact hi
theorem pv_set (ps : List VP) (i : Nat) (p : VP) (h : i < ps.length) : ((pv ps).set (i * 2) p.1).set (i * 2 + 1) p.2 = pv (ps.set i p) := by
  induction ps generalizing i with
  | nil => simp at h
  | cons q ps ih =>
    cases i with
    | zero => simp [pv]
    | succ i =>
      have hi := ih i (by simpa using h)
      have e : (i + 1) * 2 = i * 2 + 2 := by omega
      simp only [pv, List.flatMap_cons, List.cons_append, List.nil_append, List.set_cons_succ] at hi ⊢
      rw [e]
      simp only [List.set_cons_succ, hi]
/-- The pairs can be read from the address a on. -/
def RdP (w : World) (a : Option Addr) (ps : List VP) : Prop :=
  ps = [] ∨ ∃ b off, a = some ⟨b, off, none⟩ ∧ ∀ i, i < ps.length → w.cell? ⟨b, off + i * 2, none⟩ = some (ps.getD i (undef, undef)).1 ∧ w.cell? ⟨b, off + i * 2 + 1, none⟩ = some (ps.getD i (undef, undef)).2
theorem RdP.lt {w : World} {a : Option Addr} {ps : List VP} (h : RdP w a ps) (hz : ps ≠ []) : ∃ b off, a = some ⟨b, off, none⟩ ∧ b < w.heap.size ∧ ∀ i, i < ps.length → w.cell? ⟨b, off + i * 2, none⟩ = some (ps.getD i (undef, undef)).1 ∧ w.cell? ⟨b, off + i * 2 + 1, none⟩ = some (ps.getD i (undef, undef)).2 := by
  rcases h with h | ⟨b, off, rfl, hc⟩
  · exact absurd h hz
  · exact ⟨b, off, rfl, World.block_lt_of_cell? w _ (hc 0 (List.length_pos_iff.2 hz)).1, hc⟩
theorem RdP.keep {w w' : World} {a : Option Addr} {ps : List VP} (h : RdP w a ps) (hb : Below w.heap.size w w') : RdP w' a ps := by
  by_cases hz : ps = []
  · exact .inl hz
  · obtain ⟨b, off, rfl, hlt, hc⟩ := h.lt hz
    refine .inr ⟨b, off, rfl, fun i hi => ?_⟩
    rw [hb.cell (p := ⟨b, off + i * 2, none⟩) hlt, hb.cell (p := ⟨b, off + i * 2 + 1, none⟩) hlt]
    exact hc i hi
/-- The block g is the call's own row of pairs of type e. -/
def OwnP (e : TypeId) (w : World) (g n cap : Nat) (ps : List VP) : Prop := w.ownsRow 0 e 2 (.slice (some ⟨g, 0, none⟩) n cap) n (pv ps)
theorem OwnP.len {e : TypeId} {w : World} {g n cap : Nat} {ps : List VP} (h : OwnP e w g n cap ps) : ps.length = n := by
  have := h.1
  rw [pv_length] at this
  omega
theorem OwnP.lt {e : TypeId} {w : World} {g n cap : Nat} {ps : List VP} (h : OwnP e w g n cap ps) : g < w.heap.size := (World.ownsRow.lt h g rfl).2
theorem OwnP.keep {e : TypeId} {w w' : World} {g n cap : Nat} {ps : List VP} (h : OwnP e w g n cap ps) (hb : Below w.heap.size w w') : OwnP e w' g n cap ps := by
  refine ⟨h.1, ?_⟩
  rcases h.2 with h' | ⟨g', cap', cur, h', hb', hgg, rest⟩
  · exact .inl h'
  · exact .inr ⟨g', cap', cur, h', hb', (hb.block g' (Array.getElem?_eq_some_iff.1 hgg).1).trans hgg, rest⟩
theorem OwnP.kept {e : TypeId} {w w' : World} {g n c g2 : Nat} {ps : List VP} (h : OwnP e w g n c ps) (hg : w.grownBy w' (some g2)) (hne : g ≠ g2) : OwnP e w' g n c ps :=
  World.ownsRow.kept h hg (.inr (by simp [Value.ownBlock, hne]))
theorem add_at (g j : Nat) : (⟨g, 0, none⟩ : Addr).add j = ⟨g, j, none⟩ := by
  unfold Addr.add
  split
  · rename_i h; rw [h]
  · simp
theorem OwnP.cells {e : TypeId} {w : World} {g n cap : Nat} {ps : List VP} (h : OwnP e w g n cap ps) (i : Nat) (hi : i < n) : w.cell? ⟨g, i * 2, none⟩ = some (ps.getD i (undef, undef)).1 ∧ w.cell? ⟨g, i * 2 + 1, none⟩ = some (ps.getD i (undef, undef)).2 := by
  obtain ⟨h1, h2⟩ := pv_at ps i (by rw [h.len]; exact hi)
  have k1 := World.ownsRow.cells h (g := g) rfl (i * 2) _ h1
  have k2 := World.ownsRow.cells h (g := g) rfl (i * 2 + 1) _ h2
  rw [add_at] at k1 k2
  exact ⟨k1, k2⟩
theorem OwnP.rd {e : TypeId} {w : World} {g n cap : Nat} {ps : List VP} (h : OwnP e w g n cap ps) : RdP w (some ⟨g, 0, none⟩) ps := by
  refine .inr ⟨g, 0, rfl, fun i hi => ?_⟩
  have := h.cells i (by rw [← h.len]; exact hi)
  simpa using this
theorem OwnP.frozen {e : TypeId} {w : World} {g n cap : Nat} {ps : List VP} (h : OwnP e w g n cap ps) (i : Nat) : w.frozen? ⟨g, i, none⟩ = false := World.ownsRow.frozenAt h i
theorem Try.infoEnt : (Try.prog.info? 67).map (fun i => (i.zero, i.size, i.bytes)) = some (some (.agg #[.string ⟨#[]⟩, .int .i64 0]), 2, 24) := by kernel_rfl
theorem Try.infoAttr : (Try.prog.info? 70).map (fun i => (i.zero, i.size, i.bytes)) = some (some (.agg #[.string ⟨#[]⟩, .string ⟨#[]⟩]), 2, 32) := by kernel_rfl
/-- Entries, as cells. -/
def eP (es : List (ByteArray × Int)) : List VP := es.map fun e => (.string e.1, .int .i64 e.2)
theorem eP_length (es : List (ByteArray × Int)) : (eP es).length = es.length := by simp [eP]
theorem eP_at (es : List (ByteArray × Int)) (i : Nat) (h : i < es.length) : (eP es).getD i (undef, undef) = (.string es[i].1, .int .i64 es[i].2) := by simp [eP, h]
/-- Attributes, as cells. -/
def aP (es : List (ByteArray × ByteArray)) : List VP := es.map fun e => (.string e.1, .string e.2)
theorem aP_length (es : List (ByteArray × ByteArray)) : (aP es).length = es.length := by simp [aP]
theorem aP_at (es : List (ByteArray × ByteArray)) (i : Nat) (h : i < es.length) : (aP es).getD i (undef, undef) = (.string es[i].1, .string es[i].2) := by simp [aP, h]
/-- Block B holds the cells vs, of type t. -/
def Blk (W : World) (B : Nat) (t : TypeId) (vs : Array Value) : Prop := W.heap[B]? = some (.cells vs t (0, 0))
theorem Blk.lt {W : World} {B : Nat} {t : TypeId} {vs : Array Value} (h : Blk W B t vs) : B < W.heap.size := (Array.getElem?_eq_some_iff.1 h).1
theorem Blk.cell {W : World} {B : Nat} {t : TypeId} {vs : Array Value} (h : Blk W B t vs) (j : Nat) : W.cell? ⟨B, j, none⟩ = vs[j]? := cell_of_row W B j vs t (0, 0) h
theorem Blk.frozen {W : World} {B : Nat} {t : TypeId} {vs : Array Value} (h : Blk W B t vs) (j : Nat) : W.frozen? ⟨B, j, none⟩ = false := frozen_of_row W B j vs t h
theorem Blk.new (W : World) (t : TypeId) (vs : Array Value) : Blk (W.alloc (.cells vs t)) W.heap.size t vs := heap_alloc_new W _
theorem Blk.keep {W W' : World} {B : Nat} {t : TypeId} {vs : Array Value} (h : Blk W B t vs) (hb : Below W.heap.size W W') : Blk W' B t vs := (hb.block B h.lt).trans h
theorem Blk.alloc {W : World} {B : Nat} {t : TypeId} {vs : Array Value} (h : Blk W B t vs) (o : Obj) : Blk (W.alloc o) B t vs := h.keep ((Below.refl _ W).alloc (Nat.le_refl _) o)
theorem Blk.set {W : World} {B : Nat} {t : TypeId} {vs : Array Value} (h : Blk W B t vs) (j : Nat) (v : Value) : Blk (W.setCell ⟨B, j, none⟩ v) B t (vs.setIfInBounds j v) := heap_setCell_same W B j vs t v h
theorem Blk.other {W : World} {B : Nat} {t : TypeId} {vs : Array Value} (h : Blk W B t vs) {B' : Nat} (hne : B ≠ B') (j : Nat) (v : Value) : Blk (W.setCell ⟨B', j, none⟩ v) B t vs := (heap_setCell_other W ⟨B', j, none⟩ B v hne).trans h
theorem Blk.kept {W W' : World} {B g : Nat} {t : TypeId} {vs : Array Value} (h : Blk W B t vs) (hg : W.grownBy W' (some g)) (hne : B ≠ g) : Blk W' B t vs := (hg.block B h.lt (by simpa using hne)).trans h
end

section
open Go.RowKit
/-- What an inode tells. -/
structure InoD where
  ino : Int
  kind : Int
  links : Int
  data : List Int
  ents : List (ByteArray × Int)
  attrs : List (ByteArray × ByteArray)
/-- An inode as a value: the slices lead to a1, a2, a3. -/
def inoV (D : InoD) (a1 : Option Addr) (c1 : Nat) (a2 : Option Addr) (c2 : Nat) (a3 : Option Addr) (c3 : Nat) : Value :=
  .agg #[.int .i64 D.ino, .int .i64 D.kind, .int .i64 D.links, .slice a1 D.data.length c1, .slice a2 D.ents.length c2, .slice a3 D.attrs.length c3]
/-- The inode's lists can be read. -/
structure InoRd (w : World) (D : InoD) (a1 a2 a3 : Option Addr) : Prop where
  data : Rd w a1 D.data
  byt : Byt D.data
  ents : RdP w a2 (eP D.ents)
  attrs : RdP w a3 (aP D.attrs)
theorem InoRd.keep {w w' : World} {D : InoD} {a1 a2 a3 : Option Addr} (h : InoRd w D a1 a2 a3) (hb : Below w.heap.size w w') : InoRd w' D a1 a2 a3 :=
  ⟨h.data.keep hb, h.byt, h.ents.keep hb, h.attrs.keep hb⟩
/-- The inode's lists are rows of the call's own. -/
structure InoOwn (w : World) (D : InoD) (g1 c1 g2 c2 g3 c3 : Nat) : Prop where
  data : Own w g1 D.data.length c1 D.data
  byt : Byt D.data
  ents : OwnP 67 w g2 D.ents.length c2 (eP D.ents)
  attrs : OwnP 70 w g3 D.attrs.length c3 (aP D.attrs)
theorem InoOwn.rd {w : World} {D : InoD} {g1 c1 g2 c2 g3 c3 : Nat} (h : InoOwn w D g1 c1 g2 c2 g3 c3) : InoRd w D (some ⟨g1, 0, none⟩) (some ⟨g2, 0, none⟩) (some ⟨g3, 0, none⟩) :=
  ⟨h.data.rd, h.byt, h.ents.rd, h.attrs.rd⟩
theorem InoOwn.keep {w w' : World} {D : InoD} {g1 c1 g2 c2 g3 c3 : Nat} (h : InoOwn w D g1 c1 g2 c2 g3 c3) (hb : Below w.heap.size w w') : InoOwn w' D g1 c1 g2 c2 g3 c3 :=
  ⟨h.data.keep hb h.data.lt, h.byt, h.ents.keep hb, h.attrs.keep hb⟩
theorem size_setC (w : World) (a : Addr) (v : Value) : (w.setCell a v).heap.size = w.heap.size := by simp [World.setCell]
theorem gr_setC (w : World) (gc j : Nat) (v : Value) : w.grownBy (w.setCell ⟨gc, j, none⟩ v) (some gc) :=
  ⟨rfl, rfl, rfl, by simp [World.setCell], fun k _ hk => heap_setCell_other w ⟨gc, j, none⟩ k v (fun e => hk (by simp [e]))⟩
end

section
open Go.RowKit
/-- An inode whose lists and texts are small. -/
structure InoSmall (D : InoD) : Prop where
  data : D.data.length ≤ 1048576
  ents : D.ents.length ≤ 1048576
  attrs : D.attrs.length ≤ 1048576
  entsz : ∀ q ∈ D.ents, q.1.size ≤ 1048576
  attrsz : ∀ q ∈ D.attrs, q.1.size ≤ 1048576 ∧ q.2.size ≤ 1048576
end

section
open Go.RowKit
/-- The six cells of an inode in block B. -/
structure Six (W : World) (B : Nat) (v0 v1 v2 v3 v4 v5 : Value) : Prop where
  c0 : W.cell? ⟨B, 0, none⟩ = some v0
  c1 : W.cell? ⟨B, 1, none⟩ = some v1
  c2 : W.cell? ⟨B, 2, none⟩ = some v2
  c3 : W.cell? ⟨B, 3, none⟩ = some v3
  c4 : W.cell? ⟨B, 4, none⟩ = some v4
  c5 : W.cell? ⟨B, 5, none⟩ = some v5
theorem Blk.six {W : World} {B : Nat} {t : TypeId} {v0 v1 v2 v3 v4 v5 : Value} (h : Blk W B t #[v0, v1, v2, v3, v4, v5]) : Six W B v0 v1 v2 v3 v4 v5 :=
  ⟨h.cell 0, h.cell 1, h.cell 2, h.cell 3, h.cell 4, h.cell 5⟩
/-- The cells of an inode. -/
def inoC (D : InoD) (a1 : Option Addr) (c1 : Nat) (a2 : Option Addr) (c2 : Nat) (a3 : Option Addr) (c3 : Nat) : Array Value :=
  #[.int .i64 D.ino, .int .i64 D.kind, .int .i64 D.links, .slice a1 D.data.length c1, .slice a2 D.ents.length c2, .slice a3 D.attrs.length c3]
/-- The box of an inode. -/
def Box (W : World) (B : Nat) (t : TypeId) (D : InoD) (a1 : Option Addr) (c1 : Nat) (a2 : Option Addr) (c2 : Nat) (a3 : Option Addr) (c3 : Nat) : Prop := Blk W B t (inoC D a1 c1 a2 c2 a3 c3)
theorem Box.keep {W W' : World} {B : Nat} {t : TypeId} {D : InoD} {a1 a2 a3 : Option Addr} {c1 c2 c3 : Nat} (h : Box W B t D a1 c1 a2 c2 a3 c3) (hb : Below W.heap.size W W') : Box W' B t D a1 c1 a2 c2 a3 c3 := Blk.keep h hb
theorem Box.lt {W : World} {B : Nat} {t : TypeId} {D : InoD} {a1 a2 a3 : Option Addr} {c1 c2 c3 : Nat} (h : Box W B t D a1 c1 a2 c2 a3 c3) : B < W.heap.size := Blk.lt h
theorem Box.six {W : World} {B : Nat} {t : TypeId} {D : InoD} {a1 a2 a3 : Option Addr} {c1 c2 c3 : Nat} (h : Box W B t D a1 c1 a2 c2 a3 c3) : Six W B (.int .i64 D.ino) (.int .i64 D.kind) (.int .i64 D.links) (.slice a1 D.data.length c1) (.slice a2 D.ents.length c2) (.slice a3 D.attrs.length c3) := Blk.six h
theorem Box.new (W : World) (t : TypeId) (D : InoD) (a1 a2 a3 : Option Addr) (c1 c2 c3 : Nat) : Box (W.alloc (.cells (inoC D a1 c1 a2 c2 a3 c3) t)) W.heap.size t D a1 c1 a2 c2 a3 c3 := Blk.new W t _
end

section
open Go.RowKit
def mE (k0 i : Nat) : VP := (.string (mt (k0 + 2 * i)), .int .i64 ((k0 + 2 * i + 1 : Nat) : Int))
def mA (k0 i : Nat) : VP := (.string (mt (k0 + 2 * i)), .string (mt (k0 + 2 * i + 1)))
/-- v is a row of the call's own of pairs; nil, if there are none. -/
def OwnQ (e : TypeId) (w : World) (v : Value) (n : Nat) (ps : List VP) : Prop := w.ownsRow 0 e 2 v n (pv ps)
theorem OwnQ.cases {e : TypeId} {w : World} {v : Value} {n : Nat} {ps : List VP} (h : OwnQ e w v n ps) : (v = .slice none 0 0 ∧ n = 0 ∧ ps = []) ∨ ∃ g c, v = .slice (some ⟨g, 0, none⟩) n c ∧ OwnP e w g n c ps := by
  have hl : ps.length = n := by have := h.1; rw [pv_length] at this; omega
  rcases h.2 with ⟨h1, h2⟩ | ⟨g, cap, cur, rfl, rest⟩
  · subst h2; exact .inl ⟨h1, rfl, List.length_eq_zero_iff.1 hl⟩
  · exact .inr ⟨g, cap, rfl, h.1, .inr ⟨g, cap, cur, rfl, rest⟩⟩
theorem OwnP.q {e : TypeId} {w : World} {g n c : Nat} {ps : List VP} (h : OwnP e w g n c ps) : OwnQ e w (.slice (some ⟨g, 0, none⟩) n c) n ps := h
theorem OwnQ.keep {e : TypeId} {w w' : World} {v : Value} {n : Nat} {ps : List VP} (h : OwnQ e w v n ps) (hb : Below w.heap.size w w') : OwnQ e w' v n ps := by
  refine ⟨h.1, ?_⟩
  rcases h.2 with h' | ⟨g', cap', cur, h', hb', hgg, rest⟩
  · exact .inl h'
  · exact .inr ⟨g', cap', cur, h', hb', (hb.block g' (Array.getElem?_eq_some_iff.1 hgg).1).trans hgg, rest⟩
end

section
open Go.RowKit
/-- v is a row of the call's own, at or behind B, of the bytes zs; nil, if there are none. -/
def OwnV (B : Nat) (w : World) (v : Value) (n : Nat) (zs : List Int) : Prop := w.ownsRow B 5 1 v n (zs.map (Value.int .u8))
theorem OwnV.len {B : Nat} {w : World} {v : Value} {n : Nat} {zs : List Int} (h : OwnV B w v n zs) : zs.length = n := by simpa using h.1
theorem OwnV.block {B : Nat} {w : World} {v : Value} {n k : Nat} {zs : List Int} (h : OwnV B w v n zs) (hk : v.ownBlock = some k) : B ≤ k ∧ ∃ cur, w.heap[k]? = some (.cells cur 5 (0, 0)) := by
  rcases h.2 with ⟨rfl, _⟩ | ⟨g, cap, cur, rfl, hb, hg, _⟩
  · simp [Value.ownBlock] at hk
  · simp [Value.ownBlock] at hk
    subst hk
    exact ⟨hb, cur, hg⟩
theorem OwnV.alloc {B : Nat} {w : World} {v : Value} {n : Nat} {zs : List Int} (h : OwnV B w v n zs) (o : Obj) : OwnV B (w.alloc o) v n zs := World.ownsRow.alloc h o
theorem Blk.row {B : Nat} {w w' : World} {v : Value} {n ad : Nat} {zs : List Int} {t : TypeId} {vs : Array Value} (h : Blk w ad t vs) (ht : t ≠ 5) (ho : OwnV B w v n zs) (hg : w.grownBy w' v.ownBlock) : Blk w' ad t vs := by
  refine (hg.block ad h.lt ?_).trans h
  intro e
  obtain ⟨_, cur, hc⟩ := ho.block e.symm
  rw [show w.heap[ad]? = _ from h] at hc
  simp at hc
  exact ht hc.2
theorem OwnV.some {B : Nat} {w : World} {v : Value} {n : Nat} {zs : List Int} (h : OwnV B w v n zs) (hn : n ≠ 0) : ∃ g c, v = .slice (some ⟨g, 0, none⟩) n c ∧ B ≤ g ∧ Own w g n c zs := by
  rcases h.2 with ⟨rfl, h0⟩ | ⟨g, cap, cur, rfl, hb, hg, rest⟩
  · exact absurd h0 hn
  · exact ⟨g, cap, rfl, hb, h.1, .inr ⟨g, cap, cur, rfl, Nat.zero_le _, hg, rest⟩⟩
end

section
open Go.RowKit
theorem row_at {e : TypeId} {B s n : Nat} {w : World} {v : Value} {xs : List Value} (h : w.ownsRow B e s v n xs) {g : Nat} (hg : v.ownBlock = some g) : B ≤ g ∧ ∃ cur, w.heap[g]? = some (.cells cur e (0, 0)) := by
  rcases h.2 with ⟨rfl, _⟩ | ⟨g', cap, cur, rfl, hb, hgg, _⟩
  · simp [Value.ownBlock] at hg
  · simp [Value.ownBlock] at hg
    subst hg
    exact ⟨hb, cur, hgg⟩
/-- A row is as it was where only another one grew. -/
theorem row_kept {e : TypeId} {B s n : Nat} {w w' : World} {v : Value} {xs : List Value} (h : w.ownsRow B e s v n xs) {r : Option Nat} (hg : w.grownBy w' r) (hne : ∀ g, v.ownBlock = some g → r ≠ some g) : w'.ownsRow B e s v n xs := by
  refine ⟨h.1, ?_⟩
  rcases h.2 with h' | ⟨g', cap, cur, rfl, hb, hgg, rest⟩
  · exact .inl h'
  · exact .inr ⟨g', cap, cur, rfl, hb, (hg.block g' (Array.getElem?_eq_some_iff.1 hgg).1 (fun e => hne g' rfl e.symm)).trans hgg, rest⟩
/-- All blocks but the three rows are as they were. -/
structure But (w w' : World) (r1 r2 r3 : Option Nat) : Prop where
  os : w'.os = w.os
  tape : w'.tape = w.tape
  output : w'.output = w.output
  size : w.heap.size ≤ w'.heap.size
  block : ∀ k, k < w.heap.size → some k ≠ r1 → some k ≠ r2 → some k ≠ r3 → w'.heap[k]? = w.heap[k]?
theorem OwnV.keep {B : Nat} {w w' : World} {v : Value} {n : Nat} {zs : List Int} (h : OwnV B w v n zs) (hb : Below w.heap.size w w') : OwnV B w' v n zs := by
  refine ⟨h.1, ?_⟩
  rcases h.2 with h' | ⟨g', cap', cur, h', hb', hgg, rest⟩
  · exact .inl h'
  · exact .inr ⟨g', cap', cur, h', hb', (hb.block g' (Array.getElem?_eq_some_iff.1 hgg).1).trans hgg, rest⟩
end

section
open Go.RowKit
theorem Blk.newAt {W : World} {ad : Nat} {t : TypeId} {vs : Array Value} (h : ad = W.heap.size) : Blk (W.alloc (.cells vs t)) ad t vs := by subst h; exact Blk.new W t vs
theorem OwnV.drew {B : Nat} {w : World} {v : Value} {n : Nat} {zs : List Int} (h : OwnV B w v n zs) : OwnV B w.drew v n zs := h
theorem Blk.drew {w : World} {B : Nat} {t : TypeId} {vs : Array Value} (h : Blk w B t vs) : Blk w.drew B t vs := h
/-- The bytes behind a text that was turned into a list of its own: of the block's cells the first are zs, none of them held fast. -/
def OwnB (W : World) (g n : Nat) (zs : List Int) : Prop :=
  zs.length = n ∧ ∃ cur fr, W.heap[g]? = some (.cells cur 5 fr) ∧ n ≤ cur.size ∧ (∀ i, i < n → cur[i]? = some (.int .u8 (zs.getD i 0))) ∧ n ≤ fr.1
theorem OwnB.lt {W : World} {g n : Nat} {zs : List Int} (h : OwnB W g n zs) : g < W.heap.size := by
  obtain ⟨_, cur, fr, hg, _⟩ := h
  exact (Array.getElem?_eq_some_iff.1 hg).1
theorem OwnB.cell {W : World} {g n : Nat} {zs : List Int} (h : OwnB W g n zs) (i : Nat) (hi : i < n) : W.cell? ⟨g, i, none⟩ = some (.int .u8 (zs.getD i 0)) := by
  obtain ⟨_, cur, fr, hg, _, hc, _⟩ := h
  rw [cell_of_row W g i cur 5 fr hg]
  exact hc i hi
theorem OwnB.rd {W : World} {g n : Nat} {zs : List Int} (h : OwnB W g n zs) : Rd W (some ⟨g, 0, none⟩) zs := by
  refine .inr ⟨g, 0, rfl, fun i hi => ?_⟩
  rw [Nat.zero_add]
  exact h.cell i (by rw [← h.1]; exact hi)
theorem OwnB.block {W W' : World} {g n : Nat} {zs : List Int} (h : OwnB W g n zs) (hb : W'.heap[g]? = W.heap[g]?) : OwnB W' g n zs := by
  obtain ⟨hl, cur, fr, hg, rest⟩ := h
  exact ⟨hl, cur, fr, hb.trans hg, rest⟩
theorem OwnB.keep {W W' : World} {g n : Nat} {zs : List Int} (h : OwnB W g n zs) (hb : Below W.heap.size W W') : OwnB W' g n zs := h.block (hb.block g h.lt)
theorem OwnB.kept {W W' : World} {g n : Nat} {zs : List Int} (h : OwnB W g n zs) {r : Option Nat} (hg : W.grownBy W' r) (hne : some g ≠ r) : OwnB W' g n zs := h.block (hg.block g h.lt hne)
/-- All blocks of these types are as they were. -/
def KpT (W W' : World) (ts : List TypeId) : Prop := ∀ (B : Nat) (cur : Array Value) (t : TypeId) (fr : Nat × Nat), W.heap[B]? = some (Obj.cells cur t fr) → t ∈ ts → W'.heap[B]? = W.heap[B]?
theorem KpT.below {W W' : World} (h : Below W.heap.size W W') (ts : List TypeId) : KpT W W' ts := fun B _ _ _ hB _ => h.block B (Array.getElem?_eq_some_iff.1 hB).1
theorem KpT.grown {W W' : World} {R : Nat} {t : TypeId} {vs : Array Value} {ts : List TypeId} (h : W.grownBy W' (some R)) (hb : Blk W R t vs) (ht : t ∉ ts) : KpT W W' ts := fun B cur t' fr hB hm => h.block B (Array.getElem?_eq_some_iff.1 hB).1 (fun e => by
  simp at e
  subst e
  rw [show W.heap[B]? = _ from hb] at hB
  simp at hB
  exact ht (by rw [hB.2.1]; exact hm))
theorem KpT.row {W W' : World} {v : Value} {e : TypeId} {B s n : Nat} {xs : List Value} {ts : List TypeId} (h : W.grownBy W' v.ownBlock) (ho : W.ownsRow B e s v n xs) (ht : e ∉ ts) : KpT W W' ts := fun b cur t' fr hB hm => h.block b (Array.getElem?_eq_some_iff.1 hB).1 (fun q => by
  obtain ⟨_, c, hc⟩ := row_at ho q.symm
  rw [hc] at hB
  simp at hB
  exact ht (by rw [hB.2.1]; exact hm))
theorem KpT.but {W W' : World} {r1 r2 : Nat} {t1 t2 : TypeId} {u1 u2 : Array Value} {ts : List TypeId} (h : But W W' (some r1) (some r2) none) (h1 : Blk W r1 t1 u1) (h2 : Blk W r2 t2 u2) (n1 : t1 ∉ ts) (n2 : t2 ∉ ts) : KpT W W' ts := fun B cur t' fr hB hm => by
  refine h.block B (Array.getElem?_eq_some_iff.1 hB).1 (fun e => ?_) (fun e => ?_) (by simp)
  · simp at e
    subst e
    rw [show W.heap[B]? = _ from h1] at hB
    simp at hB
    exact n1 (by rw [hB.2.1]; exact hm)
  · simp at e
    subst e
    rw [show W.heap[B]? = _ from h2] at hB
    simp at hB
    exact n2 (by rw [hB.2.1]; exact hm)
theorem Blk.kp {W W' : World} {B : Nat} {t : TypeId} {vs : Array Value} {ts : List TypeId} (h : Blk W B t vs) (k : KpT W W' ts) (ht : t ∈ ts) : Blk W' B t vs := (k B _ _ _ h ht).trans h
theorem OwnB.kp {W W' : World} {g n : Nat} {zs : List Int} {ts : List TypeId} (h : OwnB W g n zs) (k : KpT W W' ts) (ht : 5 ∈ ts) : OwnB W' g n zs := by
  have h' := h
  obtain ⟨_, cur, fr, hg, _⟩ := h'
  exact h.block (k g _ _ _ hg ht)
theorem row_kp {W W' : World} {v : Value} {e : TypeId} {B s n : Nat} {xs : List Value} {ts : List TypeId} (h : W.ownsRow B e s v n xs) (k : KpT W W' ts) (ht : e ∈ ts) : W'.ownsRow B e s v n xs := by
  refine ⟨h.1, ?_⟩
  rcases h.2 with h' | ⟨g', cap', cur, h', hb', hgg, rest⟩
  · exact .inl h'
  · exact .inr ⟨g', cap', cur, h', hb', (k g' _ _ _ hgg ht).trans hgg, rest⟩
/-- The data: nothing yet, or a list of its own. -/
def DQ (B : Nat) (W : World) (v : Value) (dz : List Int) : Prop := ∃ g c, v = .slice (some ⟨g, 0, none⟩) dz.length c ∧ B ≤ g ∧ OwnB W g dz.length dz
theorem DQ.kp {B : Nat} {W W' : World} {v : Value} {dz : List Int} {ts : List TypeId} (h : DQ B W v dz) (k : KpT W W' ts) (ht : 5 ∈ ts) : DQ B W' v dz := by
  obtain ⟨g, c, h1, h2, h3⟩ := h
  exact ⟨g, c, h1, h2, h3.kp k ht⟩
/-- What is known while an inode is read: the answer's cell, the inode's box, its lists. -/
structure GX (w0 W : World) (X : Nat) (xs : Array Value) (v1 : Value) (dz : List Int) (v2 : Value) (es : List (ByteArray × Int)) (v3 : Value) (ats : List (ByteArray × ByteArray)) : Prop where
  below : Below w0.heap.size w0 W
  res : Blk W w0.heap.size 30 #[.int .i64 0, .int .i64 0, .int .i64 0, .slice none 0 0, .slice none 0 0, .slice none 0 0]
  x : Blk W X 30 xs
  hX : w0.heap.size < X
  d : v1 = .slice none 0 0 ∨ DQ w0.heap.size W v1 dz
  e : W.ownsRow w0.heap.size 67 2 v2 es.length (pv (eP es))
  t : W.ownsRow w0.heap.size 70 2 v3 ats.length (pv (aP ats))
theorem GX.kp {w0 W W' : World} {X : Nat} {xs : Array Value} {v1 v2 v3 : Value} {dz : List Int} {es : List (ByteArray × Int)} {ats : List (ByteArray × ByteArray)} (h : GX w0 W X xs v1 dz v2 es v3 ats) (k : KpT W W' [30, 5, 67, 70]) (hb : Below w0.heap.size w0 W') : GX w0 W' X xs v1 dz v2 es v3 ats :=
  ⟨hb, h.res.kp k (by decide), h.x.kp k (by decide), h.hX, h.d.imp id (fun q => q.kp k (by decide)), row_kp h.e k (by decide), row_kp h.t k (by decide)⟩
theorem GX.keep {w0 W W' : World} {X : Nat} {xs : Array Value} {v1 v2 v3 : Value} {dz : List Int} {es : List (ByteArray × Int)} {ats : List (ByteArray × ByteArray)} (h : GX w0 W X xs v1 dz v2 es v3 ats) (hb : Below W.heap.size W W') : GX w0 W' X xs v1 dz v2 es v3 ats :=
  h.kp (KpT.below hb _) (h.below.trans (hb.mono h.below.size))
theorem GX.setX {w0 W : World} {X : Nat} {xs : Array Value} {v1 v2 v3 : Value} {dz : List Int} {es : List (ByteArray × Int)} {ats : List (ByteArray × ByteArray)} (h : GX w0 W X xs v1 dz v2 es v3 ats) (j : Nat) (v : Value) : GX w0 (W.setCell ⟨X, j, none⟩ v) X (xs.setIfInBounds j v) v1 dz v2 es v3 ats := by
  have k : KpT W (W.setCell ⟨X, j, none⟩ v) [5, 67, 70] := KpT.grown (gr_setC W X j v) h.x (by decide)
  exact ⟨h.below.setCell (p := ⟨X, j, none⟩) (Nat.le_of_lt h.hX) v, h.res.other (Nat.ne_of_lt h.hX) j v, h.x.set j v, h.hX, h.d.imp id (fun q => q.kp k (by decide)), row_kp h.e k (by decide), row_kp h.t k (by decide)⟩
theorem pv_snoc (ps : List VP) (p : VP) : pv (ps ++ [p]) = pv ps ++ [p.1, p.2] := by rw [pv_append]; rfl
theorem pair_news (w : World) (p : VP) (t : TypeId) : ∀ j u, [p.1, p.2][j]? = some u → (w.alloc (.cells #[p.1, p.2] t)).cell? ((⟨w.heap.size, 0, none⟩ : Addr).add j) = some u := by
  intro j u hj
  rw [add_at, (Blk.new w t #[p.1, p.2]).cell j]
  match j, hj with
  | 0, hj => simpa using hj
  | 1, hj => simpa using hj
  | j + 2, hj => simp at hj
theorem eP_snoc (es : List (ByteArray × Int)) (q : ByteArray × Int) : eP (es ++ [q]) = eP es ++ [(.string q.1, .int .i64 q.2)] := by simp [eP]
theorem aP_snoc (es : List (ByteArray × ByteArray)) (q : ByteArray × ByteArray) : aP (es ++ [q]) = aP es ++ [(.string q.1, .string q.2)] := by simp [aP]
theorem GX.appE {w0 W W' : World} {X : Nat} {xs : Array Value} {v1 v2 v3 : Value} {dz : List Int} {es : List (ByteArray × Int)} {ats : List (ByteArray × ByteArray)} (h : GX w0 W X xs v1 dz v2 es v3 ats) (o : Obj) (hg : (W.alloc o).grownBy W' v2.ownBlock) (v2' : Value) (es' : List (ByteArray × Int)) (ho : W'.ownsRow w0.heap.size 67 2 v2' es'.length (pv (eP es'))) : GX w0 W' X xs v1 dz v2' es' v3 ats := by
  have ha := h.keep ((Below.refl W.heap.size W).alloc (Nat.le_refl _) o)
  have k : KpT (W.alloc o) W' [30, 5, 70] := KpT.row hg ha.e (by decide)
  exact ⟨ha.below.grown hg ha.below.size (fun g hk => (row_at ha.e hk).1), ha.res.kp k (by decide), ha.x.kp k (by decide), ha.hX, ha.d.imp id (fun q => q.kp k (by decide)), ho, row_kp ha.t k (by decide)⟩
theorem GX.appA {w0 W W' : World} {X : Nat} {xs : Array Value} {v1 v2 v3 : Value} {dz : List Int} {es : List (ByteArray × Int)} {ats : List (ByteArray × ByteArray)} (h : GX w0 W X xs v1 dz v2 es v3 ats) (o : Obj) (hg : (W.alloc o).grownBy W' v3.ownBlock) (v3' : Value) (ats' : List (ByteArray × ByteArray)) (ho : W'.ownsRow w0.heap.size 70 2 v3' ats'.length (pv (aP ats'))) : GX w0 W' X xs v1 dz v2 es v3' ats' := by
  have ha := h.keep ((Below.refl W.heap.size W).alloc (Nat.le_refl _) o)
  have k : KpT (W.alloc o) W' [30, 5, 67] := KpT.row hg ha.t (by decide)
  exact ⟨ha.below.grown hg ha.below.size (fun g hk => (row_at ha.t hk).1), ha.res.kp k (by decide), ha.x.kp k (by decide), ha.hX, ha.d.imp id (fun q => q.kp k (by decide)), row_kp ha.e k (by decide), ho⟩
end

section
open Go.RowKit
/-- A list of bytes: nil, or the first n cells of a block, none of them held fast. -/
def RowB (w : World) (v : Value) (n : Nat) (zs : List Int) : Prop :=
  zs.length = n ∧ ((v = .slice none 0 0 ∧ n = 0) ∨ ∃ (g c : Nat) (cur : Array Value) (fr : Nat × Nat), v = .slice (some ⟨g, 0, none⟩) n c ∧ w.heap[g]? = some (.cells cur 5 fr) ∧ n ≤ cur.size ∧ (∀ i, i < n → cur[i]? = some (.int .u8 (zs.getD i 0))) ∧ (n ≤ fr.1 ∨ fr.2 = 0))
theorem RowB.nil (w : World) : RowB w (.slice none 0 0) 0 [] := ⟨rfl, .inl ⟨rfl, rfl⟩⟩
theorem DQ.rowB {B : Nat} {w : World} {v : Value} {dz : List Int} (h : DQ B w v dz) : RowB w v dz.length dz := by
  obtain ⟨g, c, h1, _, h2, cur, fr, h3, h4, h5, h6⟩ := h
  exact ⟨rfl, .inr ⟨g, c, cur, fr, h1, h3, h4, h5, .inl h6⟩⟩
theorem OwnV.rowB {B : Nat} {w : World} {v : Value} {n : Nat} {zs : List Int} (h : OwnV B w v n zs) : RowB w v n zs := by
  have hl := h.len
  refine ⟨hl, ?_⟩
  rcases h.2 with h' | ⟨g, cap, cur, rfl, _, hg, hsz, hc⟩
  · exact .inl h'
  · have hcell := fun (i : Nat) (hi : i < n) => World.ownsRow.cellAt h i (by omega)
    have hcur : ∀ i : Nat, i < n → cur[i]? = Option.some (Value.int .u8 (zs.getD i 0)) := fun i hi => by
      have h2 := hcell i hi
      rw [cell_of_row w g i cur 5 (0, 0) hg] at h2
      rw [h2]
      have hz : i < zs.length := by omega
      simp [hz]
    refine .inr ⟨g, cap, cur, (0, 0), rfl, hg, ?_, hcur, .inr rfl⟩
    by_cases h0 : n = 0
    · omega
    · have h2 := hcur (n - 1) (by omega)
      have := (Array.getElem?_eq_some_iff.1 h2).1
      omega
theorem RowB.cell {w : World} {g c n : Nat} {zs : List Int} (h : RowB w (.slice (some ⟨g, 0, none⟩) n c) n zs) (i : Nat) (hi : i < n) : w.cell? ⟨g, i, none⟩ = some (.int .u8 (zs.getD i 0)) ∧ w.frozen? ⟨g, i, none⟩ = false := by
  rcases h.2 with ⟨h1, _⟩ | ⟨g', c', cur, fr, h1, hg, hsz, hc, hf⟩
  · simp at h1
  · simp only [Value.slice.injEq, Option.some.injEq, Addr.mk.injEq, and_true, true_and] at h1
    obtain ⟨rfl, rfl⟩ := h1
    rw [cell_of_row w g i cur 5 fr hg]
    refine ⟨hc i hi, ?_⟩
    obtain ⟨lo, hi'⟩ := fr
    simp only [World.frozen?, hg]
    simp only at hf
    rcases hf with hf | hf
    · have : ¬ lo ≤ i := by omega
      simp [this]
    · subst hf
      simp
theorem RowB.stored {w : World} {g c n : Nat} {zs : List Int} (h : RowB w (.slice (some ⟨g, 0, none⟩) n c) n zs) (k : Nat) (z : Int) (hk : k < n) : RowB (w.setCell ⟨g, k, none⟩ (.int .u8 z)) (.slice (some ⟨g, 0, none⟩) n c) n (zs.set k z) := by
  have hl := h.1
  refine ⟨by simpa using hl, ?_⟩
  rcases h.2 with ⟨h1, _⟩ | ⟨g', c', cur, fr, h1, hg, hsz, hc, hf⟩
  · simp at h1
  · simp only [Value.slice.injEq, Option.some.injEq, Addr.mk.injEq, and_true, true_and] at h1
    obtain ⟨rfl, rfl⟩ := h1
    refine .inr ⟨g, c, cur.setIfInBounds k (.int .u8 z), fr, rfl, by simp [World.setCell, Array.getElem?_modify, hg], by simpa using hsz, fun i hi => ?_, hf⟩
    by_cases e : k = i
    · subst e
      have hk2 : k < cur.size := by omega
      have hk3 : k < zs.length := by omega
      simp [hk2, hk3]
    · rw [Array.getElem?_setIfInBounds_ne e, hc i hi]
      simp [List.getD_eq_getElem?_getD, List.getElem?_set_ne e]
theorem RowB.block {w w' : World} {v : Value} {n : Nat} {zs : List Int} (h : RowB w v n zs) (hb : ∀ g, v.ownBlock = some g → w'.heap[g]? = w.heap[g]?) : RowB w' v n zs := by
  refine ⟨h.1, ?_⟩
  rcases h.2 with h1 | ⟨g, c, cur, fr, rfl, hg, rest⟩
  · exact .inl h1
  · exact .inr ⟨g, c, cur, fr, rfl, (hb g rfl).trans hg, rest⟩
theorem RowB.form {w : World} {v : Value} {n : Nat} {zs : List Int} (h : RowB w v n zs) : ∃ a c, v = .slice a n c ∧ Rd w a zs := by
  have hl := h.1
  rcases h.2 with ⟨rfl, rfl⟩ | ⟨g, c, cur, fr, rfl, hg, _, hc, _⟩
  · exact ⟨none, 0, rfl, .inl (List.length_eq_zero_iff.1 hl)⟩
  · refine ⟨some ⟨g, 0, none⟩, c, rfl, .inr ⟨g, 0, rfl, fun i hi => ?_⟩⟩
    rw [Nat.zero_add, cell_of_row w g i cur 5 fr hg]
    exact hc i (by omega)
def marksG (k0 n : Nat) : List Int := (List.range n).map (fun i : Nat => (((k0 + i : Nat) : Int)) % 256)
end
end Go.Proofs.Ytgcmpimckpnemaa
