/-
  Drawn tables of volumes, and the draws of a table.
-/
import Derived.Test.YtmkcadnpleijdaaJ29U
import Derived.Test.YtmkcadnpleijdaaJ30U
import Derived.Test.YtmkcadnpleijdaaDrawSV
import Derived.WalkKit
import Derived.WalkSpells
import Derived.WalkLawsBesides
import Derived.Deep.QuietTactic
import Derived.BigQuiet
import Derived.OpenShut
import Derived.Laws.BitsAllLaws
import Derived.Maps.AppendAt
import Derived.Lib.SliceRun
import Derived.Lib.Strings
import Derived.Deep.RegionWith
import Derived.Laws.IdiomStrings
import Derived.Deep.Slices
import Derived.ProofKit
import Derived.ChangeOld
import Derived.Below
import Derived.Deep.DeepCutAuto
import Derived.Lib.AppendStr
import Derived.Lib.ConvBytes
import Derived.Deep.RegionHeld3
import Derived.Maps.OwnSet
import Derived.Maps.OwnOps
import Derived.Laws.StructEq
import Derived.Laws.BytesString
import Derived.Deep.CutBlock
import Derived.Deep.RegionLaw
import Derived.Deep.RegionHeld
import Derived.Laws.BitsLemmas
import Derived.Deep.OwnRows
import Derived.Deep.AppendLies
namespace Go.Proofs.Ytmkcadnpleijdaa
open Go.RowKit
theorem XT.next {w Wb W : World} {gc n cap : Nat} {a : Option Addr} {zs : List Int} {X : Nat} {nx : Int} {vb v : Value} {ps : List RwD} (h : XT w Wb W gc n cap a zs X nx vb v ps) (k : Int) : XT w Wb (W.setCell ⟨X, 0, none⟩ (.int .i64 k)) gc n cap a zs X k vb v ps := by
  have hg := gr_setC W X 0 (.int .i64 k)
  have h1 := h.hX
  have h2 := h.hgc
  exact ⟨h.src.other hg (by omega), gr_mono h.gr (.inr (by omega)) hg, h.res.kept hg (by omega), h.box.set 0 _, row_kp h.own (KpT.grown (ts := [35]) hg h.box (by decide)) (by decide), h1, h2, h.k9.tb (KpT.grown hg h.box (by decide))⟩
theorem rowT_less {e : TypeId} {B B' s n : Nat} {w : World} {v : Value} {xs : List Value} (h : w.ownsRow B e s v n xs) (hB : B' ≤ B) : w.ownsRow B' e s v n xs := by
  refine ⟨h.1, ?_⟩
  rcases h.2 with h1 | ⟨g, c, cur, e1, h2, rest⟩
  · exact .inl h1
  · exact .inr ⟨g, c, cur, e1, Nat.le_trans hB h2, rest⟩
/-- A table was drawn, right or not: a few rows, in memory of its own. -/
def Q15 (w : World) (gc n cap : Nat) (a : Option Addr) (zs : List Int) (e : Ending) (w' : World) : Prop := ∃ (nx : Int) (v : Value) (ps : List RwD), e = .returned (.agg #[.int .i64 nx, v]) ∧ ps.length ≤ 4 ∧ (∀ r ∈ ps, r.name.size ≤ 1048576) ∧ w'.ownsRow (w.heap.size + 1) 35 5 v ps.length (rwE.xv ps) ∧ Src w' gc n cap a zs ∧ w.grownBy w' (some gc)
end Go.Proofs.Ytmkcadnpleijdaa


