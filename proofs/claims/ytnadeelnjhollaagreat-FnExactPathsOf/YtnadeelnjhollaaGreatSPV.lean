/-
  Joined: Split, SplitS.
-/
import Derived.Test.YtnadeelnjhollaaGreatB1V
import Derived.Lib.Strings
import Derived.Lib.Slices
import Derived.Lib.Walk
import Derived.Lib.Bytealg
import Derived.Lib.IndexLaws
import Derived.Lib.BufferWrite
import Derived.Lib.UnsafeStr
import Derived.Laws.MakeOwn
import Derived.Laws.Strings3
import Derived.RangeFuncBox
import Derived.RangeFuncNested
import Derived.RangeFuncBound
import Derived.RangeFuncCalls
import Derived.RangeFuncLeaves
import Derived.Shelf.Abstract
import Derived.Shelf.RegionOpen
import Derived.OwnWalkIn
import Derived.TacticsInMore
import Derived.LoopNIn
import Derived.LoopIn
namespace Go.Proofs.YtnadeelnjhollaaGreat
section
open Go.RowKit Go.Shelf
attribute [local go_sem] Oper.semAt_some
theorem Tryz.info9 : (Tryz.prog.info? 9).map (fun i => (i.zero, i.size, i.bytes)) = some (some (.string ⟨#[]⟩), 1, 16) := by kernel_rfl
/-- The block g is the call's own row of texts. -/
def OwnS (w : World) (g n cap : Nat) (zs : List ByteArray) : Prop := w.ownsRow 0 9 1 (.slice (some ⟨g, 0, none⟩) n cap) n (zs.map Value.string)
theorem row_below {W W' : World} {base k : Nat} {e : TypeId} {v : Value} {xs : List Value} (hb : Below W.heap.size W W') (h : W.ownsRow base e 1 v k xs) : W'.ownsRow base e 1 v k xs := by
  refine ⟨h.1, ?_⟩
  rcases h.2 with h' | ⟨g', cap', cur, h', hb', hgg, rest⟩
  · exact .inl h'
  · exact .inr ⟨g', cap', cur, h', hb', (hb.block g' (Array.getElem?_eq_some_iff.1 hgg).1).trans hgg, rest⟩
end

section
open Go.RowKit
theorem OwnS.len {w : World} {g n cap : Nat} {zs : List ByteArray} (h : OwnS w g n cap zs) : zs.length = n := by simpa using h.1
theorem OwnS.lt {w : World} {g n cap : Nat} {zs : List ByteArray} (h : OwnS w g n cap zs) : g < w.heap.size := (World.ownsRow.lt h g rfl).2
theorem OwnS.keep {w w' : World} {g n cap : Nat} {zs : List ByteArray} (h : OwnS w g n cap zs) (hb : Below w.heap.size w w') : OwnS w' g n cap zs := row_below hb h
theorem OwnS.kept {w w' : World} {g n c g2 : Nat} {zs : List ByteArray} (h : OwnS w g n c zs) (hg : w.grownBy w' (some g2)) (hne : g ≠ g2) : OwnS w' g n c zs :=
  World.ownsRow.kept h hg (.inr (by simp [Value.ownBlock, hne]))
theorem OwnS.alloc {w : World} {g n c : Nat} {zs : List ByteArray} (h : OwnS w g n c zs) (o : Obj) : OwnS (w.alloc o) g n c zs := World.ownsRow.alloc h o
/-- The texts zs can be read from the address a on. -/
def RdS (w : World) (a : Option Addr) (zs : List ByteArray) : Prop :=
  zs = [] ∨ ∃ b off, a = some ⟨b, off, none⟩ ∧ ∀ i, i < zs.length → w.cell? ⟨b, off + i, none⟩ = some (.string (zs.getD i ⟨#[]⟩))
theorem RdS.lt {w : World} {a : Option Addr} {zs : List ByteArray} (h : RdS w a zs) (hz : zs ≠ []) : ∃ b off, a = some ⟨b, off, none⟩ ∧ b < w.heap.size ∧ ∀ i, i < zs.length → w.cell? ⟨b, off + i, none⟩ = some (.string (zs.getD i ⟨#[]⟩)) := by
  rcases h with h | ⟨b, off, rfl, hc⟩
  · exact absurd h hz
  · exact ⟨b, off, rfl, World.block_lt_of_cell? w _ (hc 0 (List.length_pos_iff.2 hz)), hc⟩
theorem RdS.keep {w w' : World} {a : Option Addr} {zs : List ByteArray} (h : RdS w a zs) (hb : Below w.heap.size w w') : RdS w' a zs := by
  by_cases hz : zs = []
  · exact .inl hz
  · obtain ⟨b, off, rfl, hlt, hc⟩ := h.lt hz
    refine .inr ⟨b, off, rfl, fun i hi => ?_⟩
    rw [hb.cell (p := ⟨b, off + i, none⟩) hlt]
    exact hc i hi
theorem OwnS.rd {w : World} {g n cap : Nat} {zs : List ByteArray} (h : OwnS w g n cap zs) : RdS w (some ⟨g, 0, none⟩) zs := by
  refine .inr ⟨g, 0, rfl, fun i hi => ?_⟩
  have hn := h.len
  have := World.ownsRow.cellAt h i (by omega)
  rw [Nat.zero_add, this]
  simp [hi]
theorem RdS.take {w : World} {a : Option Addr} {zs : List ByteArray} (h : RdS w a zs) (k : Nat) : RdS w a (zs.take k) := by
  rcases h with h | ⟨b, off, rfl, hc⟩
  · exact .inl (by rw [h]; simp)
  · refine .inr ⟨b, off, rfl, fun i hi => ?_⟩
    simp only [List.length_take] at hi
    rw [hc i (by omega)]
    have : i < k := by omega
    simp [this]
end
end Go.Proofs.YtnadeelnjhollaaGreat
