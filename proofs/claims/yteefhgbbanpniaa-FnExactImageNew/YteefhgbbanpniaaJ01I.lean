/-
  Joined: Pairs, Inode.
-/
import Derived.Test.YteefhgbbanpniaaJ00I
import Derived.Laws.BitsAllLaws
import Derived.Maps.AppendAt
import Derived.Lib.SliceRun
import Derived.Deep.RegionWith
import Derived.Laws.IdiomStrings
import Derived.Deep.Slices
namespace Go.Proofs.Yteefhgbbanpniaa
section
open Go.RowKit
abbrev VP := Value × Value
/-- The pairs can be read from the address a on. -/
def RdP (w : World) (a : Option Addr) (ps : List VP) : Prop :=
  ps = [] ∨ ∃ b off, a = some ⟨b, off, none⟩ ∧ ∀ i, i < ps.length → w.cell? ⟨b, off + i * 2, none⟩ = some (ps.getD i (undef, undef)).1 ∧ w.cell? ⟨b, off + i * 2 + 1, none⟩ = some (ps.getD i (undef, undef)).2
theorem RdP.lt {w : World} {a : Option Addr} {ps : List VP} (h : RdP w a ps) (hz : ps ≠ []) : ∃ b off, a = some ⟨b, off, none⟩ ∧ b < w.heap.size ∧ ∀ i, i < ps.length → w.cell? ⟨b, off + i * 2, none⟩ = some (ps.getD i (undef, undef)).1 ∧ w.cell? ⟨b, off + i * 2 + 1, none⟩ = some (ps.getD i (undef, undef)).2 := by
  rcases h with h | ⟨b, off, rfl, hc⟩
  · exact absurd h hz
  · exact ⟨b, off, rfl, World.block_lt_of_cell? w _ (hc 0 (List.length_pos_iff.2 hz)).1, hc⟩
theorem RdP.keep {w w' : World} {a : Option Addr} {ps : List VP} (h : RdP w a ps) (hb : Below w.heap.size w w') : RdP w' a ps := by
  by_cases hz : ps = []
  · exact .inl hz
  · obtain ⟨b, off, rfl, hlt, hc⟩ := h.lt hz
    refine .inr ⟨b, off, rfl, fun i hi => ?_⟩
    rw [hb.cell (p := ⟨b, off + i * 2, none⟩) hlt, hb.cell (p := ⟨b, off + i * 2 + 1, none⟩) hlt]
    exact hc i hi
/-- Entries, as cells. -/
def eP (es : List (ByteArray × Int)) : List VP := es.map fun e => (.string e.1, .int .i64 e.2)
theorem eP_length (es : List (ByteArray × Int)) : (eP es).length = es.length := by simp [eP]
theorem eP_at (es : List (ByteArray × Int)) (i : Nat) (h : i < es.length) : (eP es).getD i (undef, undef) = (.string es[i].1, .int .i64 es[i].2) := by simp [eP, h]
/-- Attributes, as cells. -/
def aP (es : List (ByteArray × ByteArray)) : List VP := es.map fun e => (.string e.1, .string e.2)
theorem aP_length (es : List (ByteArray × ByteArray)) : (aP es).length = es.length := by simp [aP]
theorem aP_at (es : List (ByteArray × ByteArray)) (i : Nat) (h : i < es.length) : (aP es).getD i (undef, undef) = (.string es[i].1, .string es[i].2) := by simp [aP, h]
/-- Block B holds the cells vs, of type t. -/
def Blk (W : World) (B : Nat) (t : TypeId) (vs : Array Value) : Prop := W.heap[B]? = some (.cells vs t (0, 0))
theorem Blk.lt {W : World} {B : Nat} {t : TypeId} {vs : Array Value} (h : Blk W B t vs) : B < W.heap.size := (Array.getElem?_eq_some_iff.1 h).1
theorem Blk.cell {W : World} {B : Nat} {t : TypeId} {vs : Array Value} (h : Blk W B t vs) (j : Nat) : W.cell? ⟨B, j, none⟩ = vs[j]? := cell_of_row W B j vs t (0, 0) h
theorem Blk.frozen {W : World} {B : Nat} {t : TypeId} {vs : Array Value} (h : Blk W B t vs) (j : Nat) : W.frozen? ⟨B, j, none⟩ = false := frozen_of_row W B j vs t h
theorem Blk.new (W : World) (t : TypeId) (vs : Array Value) : Blk (W.alloc (.cells vs t)) W.heap.size t vs := heap_alloc_new W _
theorem Blk.keep {W W' : World} {B : Nat} {t : TypeId} {vs : Array Value} (h : Blk W B t vs) (hb : Below W.heap.size W W') : Blk W' B t vs := (hb.block B h.lt).trans h
theorem Blk.alloc {W : World} {B : Nat} {t : TypeId} {vs : Array Value} (h : Blk W B t vs) (o : Obj) : Blk (W.alloc o) B t vs := h.keep ((Below.refl _ W).alloc (Nat.le_refl _) o)
theorem Blk.set {W : World} {B : Nat} {t : TypeId} {vs : Array Value} (h : Blk W B t vs) (j : Nat) (v : Value) : Blk (W.setCell ⟨B, j, none⟩ v) B t (vs.setIfInBounds j v) := heap_setCell_same W B j vs t v h
theorem Blk.other {W : World} {B : Nat} {t : TypeId} {vs : Array Value} (h : Blk W B t vs) {B' : Nat} (hne : B ≠ B') (j : Nat) (v : Value) : Blk (W.setCell ⟨B', j, none⟩ v) B t vs := (heap_setCell_other W ⟨B', j, none⟩ B v hne).trans h
end

section
open Go.RowKit
/-- What an inode tells. -/
structure InoD where
  ino : Int
  kind : Int
  links : Int
  data : List Int
  ents : List (ByteArray × Int)
  attrs : List (ByteArray × ByteArray)
/-- An inode as a value: the slices lead to a1, a2, a3. -/
def inoV (D : InoD) (a1 : Option Addr) (c1 : Nat) (a2 : Option Addr) (c2 : Nat) (a3 : Option Addr) (c3 : Nat) : Value :=
  .agg #[.int .i64 D.ino, .int .i64 D.kind, .int .i64 D.links, .slice a1 D.data.length c1, .slice a2 D.ents.length c2, .slice a3 D.attrs.length c3]
/-- The inode's lists can be read. -/
structure InoRd (w : World) (D : InoD) (a1 a2 a3 : Option Addr) : Prop where
  data : Rd w a1 D.data
  byt : Byt D.data
  ents : RdP w a2 (eP D.ents)
  attrs : RdP w a3 (aP D.attrs)
theorem InoRd.keep {w w' : World} {D : InoD} {a1 a2 a3 : Option Addr} (h : InoRd w D a1 a2 a3) (hb : Below w.heap.size w w') : InoRd w' D a1 a2 a3 :=
  ⟨h.data.keep hb, h.byt, h.ents.keep hb, h.attrs.keep hb⟩
end
end Go.Proofs.Yteefhgbbanpniaa
