/-
  Joined: SzIno, Six, MarkI, Puts, MarkIno.
-/
import Derived.Test.YtmfimoccemgoiaaGreatDoorJ01D
import Derived.ProofKit
import Derived.ChangeOld
import Derived.Below
import Derived.Deep.DeepCutAuto
import Derived.Lib.AppendStr
namespace Go.Proofs.YtmfimoccemgoiaaGreatDoor
section
open Go.RowKit
/-- An inode whose lists and texts are small. -/
structure InoSmall (D : InoD) : Prop where
  data : D.data.length ≤ 1048576
  ents : D.ents.length ≤ 1048576
  attrs : D.attrs.length ≤ 1048576
  entsz : ∀ q ∈ D.ents, q.1.size ≤ 1048576
  attrsz : ∀ q ∈ D.attrs, q.1.size ≤ 1048576 ∧ q.2.size ≤ 1048576
end

section
open Go.RowKit
/-- The six cells of an inode in block B. -/
structure Six (W : World) (B : Nat) (v0 v1 v2 v3 v4 v5 : Value) : Prop where
  c0 : W.cell? ⟨B, 0, none⟩ = some v0
  c1 : W.cell? ⟨B, 1, none⟩ = some v1
  c2 : W.cell? ⟨B, 2, none⟩ = some v2
  c3 : W.cell? ⟨B, 3, none⟩ = some v3
  c4 : W.cell? ⟨B, 4, none⟩ = some v4
  c5 : W.cell? ⟨B, 5, none⟩ = some v5
theorem Blk.six {W : World} {B : Nat} {t : TypeId} {v0 v1 v2 v3 v4 v5 : Value} (h : Blk W B t #[v0, v1, v2, v3, v4, v5]) : Six W B v0 v1 v2 v3 v4 v5 :=
  ⟨h.cell 0, h.cell 1, h.cell 2, h.cell 3, h.cell 4, h.cell 5⟩
/-- The cells of an inode. -/
def inoC (D : InoD) (a1 : Option Addr) (c1 : Nat) (a2 : Option Addr) (c2 : Nat) (a3 : Option Addr) (c3 : Nat) : Array Value :=
  #[.int .i64 D.ino, .int .i64 D.kind, .int .i64 D.links, .slice a1 D.data.length c1, .slice a2 D.ents.length c2, .slice a3 D.attrs.length c3]
/-- The box of an inode. -/
def Box (W : World) (B : Nat) (t : TypeId) (D : InoD) (a1 : Option Addr) (c1 : Nat) (a2 : Option Addr) (c2 : Nat) (a3 : Option Addr) (c3 : Nat) : Prop := Blk W B t (inoC D a1 c1 a2 c2 a3 c3)
theorem Box.keep {W W' : World} {B : Nat} {t : TypeId} {D : InoD} {a1 a2 a3 : Option Addr} {c1 c2 c3 : Nat} (h : Box W B t D a1 c1 a2 c2 a3 c3) (hb : Below W.heap.size W W') : Box W' B t D a1 c1 a2 c2 a3 c3 := Blk.keep h hb
theorem Box.lt {W : World} {B : Nat} {t : TypeId} {D : InoD} {a1 a2 a3 : Option Addr} {c1 c2 c3 : Nat} (h : Box W B t D a1 c1 a2 c2 a3 c3) : B < W.heap.size := Blk.lt h
theorem Box.six {W : World} {B : Nat} {t : TypeId} {D : InoD} {a1 a2 a3 : Option Addr} {c1 c2 c3 : Nat} (h : Box W B t D a1 c1 a2 c2 a3 c3) : Six W B (.int .i64 D.ino) (.int .i64 D.kind) (.int .i64 D.links) (.slice a1 D.data.length c1) (.slice a2 D.ents.length c2) (.slice a3 D.attrs.length c3) := Blk.six h
theorem Box.new (W : World) (t : TypeId) (D : InoD) (a1 a2 a3 : Option Addr) (c1 c2 c3 : Nat) : Box (W.alloc (.cells (inoC D a1 c1 a2 c2 a3 c3) t)) W.heap.size t D a1 c1 a2 c2 a3 c3 := Blk.new W t _
end

section
open Go.RowKit
def mE (k0 i : Nat) : VP := (.string (mt (k0 + 2 * i)), .int .i64 ((k0 + 2 * i + 1 : Nat) : Int))
def mA (k0 i : Nat) : VP := (.string (mt (k0 + 2 * i)), .string (mt (k0 + 2 * i + 1)))
/-- v is a row of the call's own of pairs; nil, if there are none. -/
def OwnQ (e : TypeId) (w : World) (v : Value) (n : Nat) (ps : List VP) : Prop := w.ownsRow 0 e 2 v n (pv ps)
theorem OwnQ.cases {e : TypeId} {w : World} {v : Value} {n : Nat} {ps : List VP} (h : OwnQ e w v n ps) : (v = .slice none 0 0 ∧ n = 0 ∧ ps = []) ∨ ∃ g c, v = .slice (some ⟨g, 0, none⟩) n c ∧ OwnP e w g n c ps := by
  have hl : ps.length = n := by have := h.1; rw [pv_length] at this; omega
  rcases h.2 with ⟨h1, h2⟩ | ⟨g, cap, cur, rfl, rest⟩
  · subst h2; exact .inl ⟨h1, rfl, List.length_eq_zero_iff.1 hl⟩
  · exact .inr ⟨g, cap, rfl, h.1, .inr ⟨g, cap, cur, rfl, rest⟩⟩
theorem OwnP.q {e : TypeId} {w : World} {g n c : Nat} {ps : List VP} (h : OwnP e w g n c ps) : OwnQ e w (.slice (some ⟨g, 0, none⟩) n c) n ps := h
theorem OwnQ.keep {e : TypeId} {w w' : World} {v : Value} {n : Nat} {ps : List VP} (h : OwnQ e w v n ps) (hb : Below w.heap.size w w') : OwnQ e w' v n ps := by
  refine ⟨h.1, ?_⟩
  rcases h.2 with h' | ⟨g', cap', cur, h', hb', hgg, rest⟩
  · exact .inl h'
  · exact .inr ⟨g', cap', cur, h', hb', (hb.block g' (Array.getElem?_eq_some_iff.1 hgg).1).trans hgg, rest⟩
end

section
open Go.RowKit
/-- A text's bytes as numbers. -/
def strZ (s : ByteArray) : List Int := s.data.toList.map fun b => (b.toNat : Int)
/-- v is a row of the call's own, at or behind B, of the bytes zs; nil, if there are none. -/
def OwnV (B : Nat) (w : World) (v : Value) (n : Nat) (zs : List Int) : Prop := w.ownsRow B 5 1 v n (zs.map (Value.int .u8))
theorem OwnV.len {B : Nat} {w : World} {v : Value} {n : Nat} {zs : List Int} (h : OwnV B w v n zs) : zs.length = n := by simpa using h.1
theorem OwnV.block {B : Nat} {w : World} {v : Value} {n k : Nat} {zs : List Int} (h : OwnV B w v n zs) (hk : v.ownBlock = some k) : B ≤ k ∧ ∃ cur, w.heap[k]? = some (.cells cur 5 (0, 0)) := by
  rcases h.2 with ⟨rfl, _⟩ | ⟨g, cap, cur, rfl, hb, hg, _⟩
  · simp [Value.ownBlock] at hk
  · simp [Value.ownBlock] at hk
    subst hk
    exact ⟨hb, cur, hg⟩
theorem OwnV.alloc {B : Nat} {w : World} {v : Value} {n : Nat} {zs : List Int} (h : OwnV B w v n zs) (o : Obj) : OwnV B (w.alloc o) v n zs := World.ownsRow.alloc h o
theorem Blk.row {B : Nat} {w w' : World} {v : Value} {n ad : Nat} {zs : List Int} {t : TypeId} {vs : Array Value} (h : Blk w ad t vs) (ht : t ≠ 5) (ho : OwnV B w v n zs) (hg : w.grownBy w' v.ownBlock) : Blk w' ad t vs := by
  refine (hg.block ad h.lt ?_).trans h
  intro e
  obtain ⟨_, cur, hc⟩ := ho.block e.symm
  rw [show w.heap[ad]? = _ from h] at hc
  simp at hc
  exact ht hc.2
theorem OwnV.some {B : Nat} {w : World} {v : Value} {n : Nat} {zs : List Int} (h : OwnV B w v n zs) (hn : n ≠ 0) : ∃ g c, v = .slice (some ⟨g, 0, none⟩) n c ∧ B ≤ g ∧ Own w g n c zs := by
  rcases h.2 with ⟨rfl, h0⟩ | ⟨g, cap, cur, rfl, hb, hg, rest⟩
  · exact absurd h0 hn
  · exact ⟨g, cap, rfl, hb, h.1, .inr ⟨g, cap, cur, rfl, Nat.zero_le _, hg, rest⟩⟩
end

section
open Go.RowKit
theorem row_at {e : TypeId} {B s n : Nat} {w : World} {v : Value} {xs : List Value} (h : w.ownsRow B e s v n xs) {g : Nat} (hg : v.ownBlock = some g) : B ≤ g ∧ ∃ cur, w.heap[g]? = some (.cells cur e (0, 0)) := by
  rcases h.2 with ⟨rfl, _⟩ | ⟨g', cap, cur, rfl, hb, hgg, _⟩
  · simp [Value.ownBlock] at hg
  · simp [Value.ownBlock] at hg
    subst hg
    exact ⟨hb, cur, hgg⟩
/-- A row is as it was where only another one grew. -/
theorem row_kept {e : TypeId} {B s n : Nat} {w w' : World} {v : Value} {xs : List Value} (h : w.ownsRow B e s v n xs) {r : Option Nat} (hg : w.grownBy w' r) (hne : ∀ g, v.ownBlock = some g → r ≠ some g) : w'.ownsRow B e s v n xs := by
  refine ⟨h.1, ?_⟩
  rcases h.2 with h' | ⟨g', cap, cur, rfl, hb, hgg, rest⟩
  · exact .inl h'
  · exact .inr ⟨g', cap, cur, rfl, hb, (hg.block g' (Array.getElem?_eq_some_iff.1 hgg).1 (fun e => hne g' rfl e.symm)).trans hgg, rest⟩
/-- All blocks but the three rows are as they were. -/
structure But (w w' : World) (r1 r2 r3 : Option Nat) : Prop where
  os : w'.os = w.os
  tape : w'.tape = w.tape
  output : w'.output = w.output
  size : w.heap.size ≤ w'.heap.size
  block : ∀ k, k < w.heap.size → some k ≠ r1 → some k ≠ r2 → some k ≠ r3 → w'.heap[k]? = w.heap[k]?
theorem OwnV.keep {B : Nat} {w w' : World} {v : Value} {n : Nat} {zs : List Int} (h : OwnV B w v n zs) (hb : Below w.heap.size w w') : OwnV B w' v n zs := by
  refine ⟨h.1, ?_⟩
  rcases h.2 with h' | ⟨g', cap', cur, h', hb', hgg, rest⟩
  · exact .inl h'
  · exact .inr ⟨g', cap', cur, h', hb', (hb.block g' (Array.getElem?_eq_some_iff.1 hgg).1).trans hgg, rest⟩
end
end Go.Proofs.YtmfimoccemgoiaaGreatDoor
