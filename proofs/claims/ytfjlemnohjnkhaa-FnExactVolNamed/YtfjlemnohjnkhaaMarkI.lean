/-
  The laws' marks in entries, attributes and inodes: put and asked for.
-/
import Derived.Test.YtfjlemnohjnkhaaRows
import Derived.Test.YtfjlemnohjnkhaaBase
import Derived.Test.YtfjlemnohjnkhaaPairs
import Derived.Test.YtfjlemnohjnkhaaInode
import Derived.Test.YtfjlemnohjnkhaaSix
import Derived.WalkKit
import Derived.WalkSpells
import Derived.WalkLawsBesides
import Derived.Deep.QuietTactic
import Derived.BigQuiet
import Derived.OpenShut
import Derived.Laws.BitsAllLaws
import Derived.Maps.AppendAt
import Derived.Lib.SliceRun
import Derived.Lib.Strings
import Derived.Laws.IdiomStrings
import Derived.Deep.Slices
import Derived.ProofKit
import Derived.ChangeOld
import Derived.Below
import Derived.Deep.RegionWith
import Derived.Deep.DeepCutAuto
namespace Go.Proofs.Ytfjlemnohjnkhaa
open Go.RowKit
/-- v is a row of the call's own of pairs; nil, if there are none. -/
def OwnQ (e : TypeId) (w : World) (v : Value) (n : Nat) (ps : List VP) : Prop := w.ownsRow 0 e 2 v n (pv ps)
theorem OwnQ.cases {e : TypeId} {w : World} {v : Value} {n : Nat} {ps : List VP} (h : OwnQ e w v n ps) : (v = .slice none 0 0 ∧ n = 0 ∧ ps = []) ∨ ∃ g c, v = .slice (some ⟨g, 0, none⟩) n c ∧ OwnP e w g n c ps := by
  have hl : ps.length = n := by have := h.1; rw [pv_length] at this; omega
  rcases h.2 with ⟨h1, h2⟩ | ⟨g, cap, cur, rfl, rest⟩
  · subst h2; exact .inl ⟨h1, rfl, List.length_eq_zero_iff.1 hl⟩
  · exact .inr ⟨g, cap, rfl, h.1, .inr ⟨g, cap, cur, rfl, rest⟩⟩
theorem OwnP.q {e : TypeId} {w : World} {g n c : Nat} {ps : List VP} (h : OwnP e w g n c ps) : OwnQ e w (.slice (some ⟨g, 0, none⟩) n c) n ps := h
theorem OwnQ.keep {e : TypeId} {w w' : World} {v : Value} {n : Nat} {ps : List VP} (h : OwnQ e w v n ps) (hb : Below w.heap.size w w') : OwnQ e w' v n ps := by
  refine ⟨h.1, ?_⟩
  rcases h.2 with h' | ⟨g', cap', cur, h', hb', hgg, rest⟩
  · exact .inl h'
  · exact .inr ⟨g', cap', cur, h', hb', (hb.block g' (Array.getElem?_eq_some_iff.1 hgg).1).trans hgg, rest⟩
end Go.Proofs.Ytfjlemnohjnkhaa
