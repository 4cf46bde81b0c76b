/-
  Contracts for putNums and putTexts of many, over a row of the call's own that may be nil.
-/
import Derived.Test.YtfjlemnohjnkhaaRows
import Derived.Test.YtfjlemnohjnkhaaBase
import Derived.Test.YtfjlemnohjnkhaaPairs
import Derived.WalkKit
import Derived.WalkSpells
import Derived.WalkLawsBesides
import Derived.Deep.QuietTactic
import Derived.BigQuiet
import Derived.OpenShut
import Derived.Laws.BitsAllLaws
import Derived.Maps.AppendAt
import Derived.Lib.SliceRun
import Derived.Lib.Strings
import Derived.Deep.RegionWith
import Derived.Laws.IdiomStrings
import Derived.Deep.Slices
import Derived.Lib.AppendStr
namespace Go.Proofs.Ytfjlemnohjnkhaa
open Go.RowKit
/-- v is a row of the call's own, at or behind B, of the bytes zs; nil, if there are none. -/
def OwnV (B : Nat) (w : World) (v : Value) (n : Nat) (zs : List Int) : Prop := w.ownsRow B 5 1 v n (zs.map (Value.int .u8))
theorem OwnV.len {B : Nat} {w : World} {v : Value} {n : Nat} {zs : List Int} (h : OwnV B w v n zs) : zs.length = n := by simpa using h.1
theorem OwnV.block {B : Nat} {w : World} {v : Value} {n k : Nat} {zs : List Int} (h : OwnV B w v n zs) (hk : v.ownBlock = some k) : B ≤ k ∧ ∃ cur, w.heap[k]? = some (.cells cur 5 (0, 0)) := by
  rcases h.2 with ⟨rfl, _⟩ | ⟨g, cap, cur, rfl, hb, hg, _⟩
  · simp [Value.ownBlock] at hk
  · simp [Value.ownBlock] at hk
    subst hk
    exact ⟨hb, cur, hg⟩
theorem OwnV.alloc {B : Nat} {w : World} {v : Value} {n : Nat} {zs : List Int} (h : OwnV B w v n zs) (o : Obj) : OwnV B (w.alloc o) v n zs := World.ownsRow.alloc h o
theorem Blk.row {B : Nat} {w w' : World} {v : Value} {n ad : Nat} {zs : List Int} {t : TypeId} {vs : Array Value} (h : Blk w ad t vs) (ht : t ≠ 5) (ho : OwnV B w v n zs) (hg : w.grownBy w' v.ownBlock) : Blk w' ad t vs := by
  refine (hg.block ad h.lt ?_).trans h
  intro e
  obtain ⟨_, cur, hc⟩ := ho.block e.symm
  rw [show w.heap[ad]? = _ from h] at hc
  simp at hc
  exact ht hc.2
theorem OwnV.some {B : Nat} {w : World} {v : Value} {n : Nat} {zs : List Int} (h : OwnV B w v n zs) (hn : n ≠ 0) : ∃ g c, v = .slice (some ⟨g, 0, none⟩) n c ∧ B ≤ g ∧ Own w g n c zs := by
  rcases h.2 with ⟨rfl, h0⟩ | ⟨g, cap, cur, rfl, hb, hg, rest⟩
  · exact absurd h0 hn
  · exact ⟨g, cap, rfl, hb, h.1, .inr ⟨g, cap, cur, rfl, Nat.zero_le _, hg, rest⟩⟩
end Go.Proofs.Ytfjlemnohjnkhaa
