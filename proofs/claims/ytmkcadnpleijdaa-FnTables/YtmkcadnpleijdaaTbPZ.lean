/-
  The bytes of a table of volumes: what both PutTable functions answer.
-/
import Derived.Test.YtmkcadnpleijdaaTbEY
import Derived.WalkKit
import Derived.WalkSpells
import Derived.WalkLawsBesides
import Derived.Deep.QuietTactic
import Derived.BigQuiet
import Derived.OpenShut
import Derived.Laws.BitsAllLaws
import Derived.Maps.AppendAt
import Derived.Lib.SliceRun
import Derived.Lib.Strings
import Derived.Deep.RegionWith
import Derived.Laws.IdiomStrings
import Derived.Deep.Slices
import Derived.ProofKit
import Derived.ChangeOld
import Derived.Below
import Derived.Deep.DeepCutAuto
import Derived.Lib.AppendStr
import Derived.Lib.ConvBytes
import Derived.Deep.RegionHeld3
import Derived.Deep.AppendLies
import Derived.Maps.OwnSet
import Derived.Maps.OwnOps
import Derived.Laws.StructEq
import Derived.Laws.BytesString
namespace Go.Proofs.Ytmkcadnpleijdaa
open Go.RowKit
set_option maxHeartbeats 1000000 in
theorem putTableS_no (nx : Int) (a : Option Addr) (n cap : Nat) (ps : List RwD) (w : World) (hf : WR w a n ps) (hok : tbB nx ps = false) :
    Calls Try.prog 19 #[.agg #[.int .i64 nx, .slice a n cap]] w fun e w' => ∃ g : Nat, e = .returned (.slice (some ⟨g, 0, none⟩) 0 0) ∧ Below w.heap.size w w' := by
  have B0 : Below w.heap.size w (w.alloc (.cells #[.int .i64 nx, .slice a n cap] 26)) := (Below.refl _ w).alloc (Nat.le_refl _) _
  have cF := tableOkS nx a n cap ps _ (hf.keep B0)
  rw [hok] at cF
  clear hf hok
  go_enter Try.func19, Try.ntmps19
  go_wp2_with fail
  refine cF.mono ?_
  rintro e w1 ⟨rfl, b1⟩
  go_wp2
  go_ret
  exact ⟨w1.heap.size, rfl, (B0.trans (b1.mono B0.size)).alloc (B0.trans (b1.mono B0.size)).size _⟩
theorem tbPut_len (nx : Int) (ps : List RwD) : (tbPut nx ps).length ≤ 212 := by
  unfold tbPut
  split
  · next h =>
    have h1 := tbT_len nx ps.length ps ps.length (tb_names h)
    rw [tbT_all nx _ ps rfl] at h1
    have h2 := (tbB_self h).1
    omega
  · simp
theorem putTableS (nx : Int) (a : Option Addr) (n cap : Nat) (ps : List RwD) (w : World) (hf : WR w a n ps) :
    Calls Try.prog 19 #[.agg #[.int .i64 nx, .slice a n cap]] w fun e w' => ∃ b d, e = .returned (.slice b (tbPut nx ps).length d) ∧ Rd w' b (tbPut nx ps) ∧ Below w.heap.size w w' := by
  unfold tbPut
  cases hok : tbB nx ps with
  | true =>
    simp only [if_true]
    exact (putTableS_yes nx a n cap ps w hf hok).mono fun e w' ⟨g, d, h1, _, h3, h4⟩ => ⟨some ⟨g, 0, none⟩, d, h1, h3.rd, h4⟩
  | false =>
    simp only [Bool.false_eq_true, if_false, List.length_nil]
    exact (putTableS_no nx a n cap ps w hf hok).mono fun e w' ⟨g, h1, h2⟩ => ⟨some ⟨g, 0, none⟩, 0, h1, .inl rfl, h2⟩
theorem putTableI (nx : Int) (a : Option Addr) (n cap : Nat) (ps : List RwD) (w : World) (hf : WR w a n ps) :
    Calls Try.prog 9 #[.agg #[.int .i64 nx, .slice a n cap]] w fun e w' => ∃ b d, e = .returned (.slice b (tbPut nx ps).length d) ∧ RowB w' (.slice b (tbPut nx ps).length d) (tbPut nx ps).length (tbPut nx ps) ∧ (∀ g, (Value.slice b (tbPut nx ps).length d).ownBlock = some g → w.heap.size ≤ g) ∧ Below w.heap.size w w' := by
  unfold tbPut
  cases hok : tbB nx ps with
  | true =>
    simp only [if_true]
    exact (putTableI_yes nx a n cap ps w hf hok).mono fun e w' ⟨g, d, h1, h2, h3, h4⟩ => ⟨some ⟨g, 0, none⟩, d, h1, h3.rowB, fun k hk => by simp [Value.ownBlock] at hk; omega, h4⟩
  | false =>
    simp only [Bool.false_eq_true, if_false, List.length_nil]
    exact (putTableI_no nx a n cap ps w hf hok).mono fun e w' ⟨h1, h2⟩ => ⟨none, 0, h1, RowB.nil _, fun k hk => by simp [Value.ownBlock] at hk, h2⟩
end Go.Proofs.Ytmkcadnpleijdaa


