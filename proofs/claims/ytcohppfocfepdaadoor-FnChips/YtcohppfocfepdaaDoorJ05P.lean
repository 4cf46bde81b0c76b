/-
  Joined: MarkI, Puts.
-/
import Derived.Test.YtcohppfocfepdaaDoorJ03P
import Derived.Test.YtcohppfocfepdaaDoorJ04P
import Derived.ProofKit
import Derived.ChangeOld
import Derived.Below
import Derived.Deep.DeepCutAuto
import Derived.Lib.AppendStr
namespace Go.Proofs.YtcohppfocfepdaaDoor
section
open Go.RowKit
def mE (k0 i : Nat) : VP := (.string (mt (k0 + 2 * i)), .int .i64 ((k0 + 2 * i + 1 : Nat) : Int))
def mA (k0 i : Nat) : VP := (.string (mt (k0 + 2 * i)), .string (mt (k0 + 2 * i + 1)))
end

section
open Go.RowKit
/-- v is a row of the call's own, at or behind B, of the bytes zs; nil, if there are none. -/
def OwnV (B : Nat) (w : World) (v : Value) (n : Nat) (zs : List Int) : Prop := w.ownsRow B 5 1 v n (zs.map (Value.int .u8))
theorem OwnV.len {B : Nat} {w : World} {v : Value} {n : Nat} {zs : List Int} (h : OwnV B w v n zs) : zs.length = n := by simpa using h.1
theorem OwnV.block {B : Nat} {w : World} {v : Value} {n k : Nat} {zs : List Int} (h : OwnV B w v n zs) (hk : v.ownBlock = some k) : B ≤ k ∧ ∃ cur, w.heap[k]? = some (.cells cur 5 (0, 0)) := by
  rcases h.2 with ⟨rfl, _⟩ | ⟨g, cap, cur, rfl, hb, hg, _⟩
  · simp [Value.ownBlock] at hk
  · simp [Value.ownBlock] at hk
    subst hk
    exact ⟨hb, cur, hg⟩
theorem OwnV.alloc {B : Nat} {w : World} {v : Value} {n : Nat} {zs : List Int} (h : OwnV B w v n zs) (o : Obj) : OwnV B (w.alloc o) v n zs := World.ownsRow.alloc h o
theorem Blk.row {B : Nat} {w w' : World} {v : Value} {n ad : Nat} {zs : List Int} {t : TypeId} {vs : Array Value} (h : Blk w ad t vs) (ht : t ≠ 5) (ho : OwnV B w v n zs) (hg : w.grownBy w' v.ownBlock) : Blk w' ad t vs := by
  refine (hg.block ad h.lt ?_).trans h
  intro e
  obtain ⟨_, cur, hc⟩ := ho.block e.symm
  rw [show w.heap[ad]? = _ from h] at hc
  simp at hc
  exact ht hc.2
theorem OwnV.some {B : Nat} {w : World} {v : Value} {n : Nat} {zs : List Int} (h : OwnV B w v n zs) (hn : n ≠ 0) : ∃ g c, v = .slice (some ⟨g, 0, none⟩) n c ∧ B ≤ g ∧ Own w g n c zs := by
  rcases h.2 with ⟨rfl, h0⟩ | ⟨g, cap, cur, rfl, hb, hg, rest⟩
  · exact absurd h0 hn
  · exact ⟨g, cap, rfl, hb, h.1, .inr ⟨g, cap, cur, rfl, Nat.zero_le _, hg, rest⟩⟩
theorem Own.toV {B : Nat} {w : World} {g n c : Nat} {zs : List Int} (h : Own w g n c zs) (hB : B ≤ g) : OwnV B w (.slice (some ⟨g, 0, none⟩) n c) n zs := by
  refine ⟨h.1, ?_⟩
  rcases h.2 with ⟨h', _⟩ | ⟨g', cap', cur, h', _, rest⟩
  · simp at h'
  · refine .inr ⟨g', cap', cur, h', ?_, rest⟩
    simp only [Value.slice.injEq, Option.some.injEq, Addr.mk.injEq, and_true, true_and] at h'
    omega
theorem ownV_nil (B : Nat) (w : World) : OwnV B w (.slice none 0 0) 0 [] := ⟨rfl, .inl ⟨rfl, rfl⟩⟩
end
end Go.Proofs.YtcohppfocfepdaaDoor
