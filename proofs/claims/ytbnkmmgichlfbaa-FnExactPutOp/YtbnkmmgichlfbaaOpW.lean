/-
  An operation marked and held.
-/
import Derived.Test.YtbnkmmgichlfbaaRows
import Derived.Test.YtbnkmmgichlfbaaBase
import Derived.Test.YtbnkmmgichlfbaaPairs
import Derived.Test.YtbnkmmgichlfbaaPuts
import Derived.Test.YtbnkmmgichlfbaaMarkIno
import Derived.Test.YtbnkmmgichlfbaaKept
import Derived.Test.YtbnkmmgichlfbaaMarkG
import Derived.Test.YtbnkmmgichlfbaaOpM
import Derived.Test.YtbnkmmgichlfbaaOpPut
import Derived.Test.YtbnkmmgichlfbaaMarkGI
import Derived.WalkKit
import Derived.WalkSpells
import Derived.WalkLawsBesides
import Derived.Deep.QuietTactic
import Derived.BigQuiet
import Derived.OpenShut
import Derived.Laws.BitsAllLaws
import Derived.Maps.AppendAt
import Derived.Lib.SliceRun
import Derived.Lib.Strings
import Derived.Deep.RegionWith
import Derived.Laws.IdiomStrings
import Derived.Deep.Slices
import Derived.ProofKit
import Derived.ChangeOld
import Derived.Below
import Derived.Deep.DeepCutAuto
import Derived.Lib.AppendStr
import Derived.Lib.ConvBytes
import Derived.Deep.RegionHeld3
import Derived.Deep.AppendLies
import Derived.Laws.StructEq
import Derived.Laws.BytesString
namespace Go.Proofs.Ytbnkmmgichlfbaa
open Go.RowKit
set_option maxHeartbeats 800000 in
theorem markOp_any (D : OpD) (a : Option Addr) (c n : Nat) (zs : List Int) (w : World) (hn : D.data.length = n) (hs : n ≤ 4000000) (ho : RowB w (.slice a n c) n zs) :
    Calls Try.prog 14 #[.agg (opC D a c), .int .i64 1] w fun e w' => e = .returned (.int .i64 ((1 + n : Nat) : Int)) ∧ RowB w' (.slice a n c) n (marksG 1 n) ∧ w.grownBy w' (Value.slice a n c).ownBlock := by
  have hbl : ∀ g, (Value.slice a n c).ownBlock = some g → (w.alloc (.cells (opC D a c) 27)).heap[g]? = w.heap[g]? := fun g hg => ((Below.refl _ w).alloc (Nat.le_refl _) _).block g (ho.at_ hg).1
  have hg0 : w.grownBy (w.alloc (.cells (opC D a c) 27)) (Value.slice a n c).ownBlock := World.grownBy_alloc w _ _
  have ho1 := ho.block hbl
  unfold opC at ho1 hg0 ⊢
  rw [hn] at ho1 hg0 ⊢
  clear hn hbl ho
  go_enter Try.func14, Try.ntmps14
  go_wp2_with fail
  refine (markBG (.slice a n c) n 1 zs _ (Nat.le_refl _) (by omega) ho1).mono ?_
  rintro e w1 ⟨rfl, o1, g1⟩
  go_wp2
  go_ret
  exact ⟨rfl, o1, hg0.trans g1⟩
set_option maxHeartbeats 800000 in
theorem heldOp_any (D : OpD) (a : Option Addr) (c n : Nat) (w : World) (hn : D.data.length = n) (hs : n ≤ 4000000) (ho : RowB w (.slice a n c) n (marksG 1 n)) :
    Calls Try.prog 20 #[.agg (opC D a c), .int .i64 1] w fun e w' => e = .returned (.int .i64 ((1 + n : Nat) : Int)) ∧ Below w.heap.size w w' := by
  have B0 : Below w.heap.size w (w.alloc (.cells (opC D a c) 27)) := (Below.refl _ w).alloc (Nat.le_refl _) _
  have ho1 := ho.block (fun g hg => B0.block g (ho.at_ hg).1)
  unfold opC at ho1 B0 ⊢
  rw [hn] at ho1 B0 ⊢
  obtain ⟨m, hm⟩ : ∃ m, 1 + n = m := ⟨_, rfl⟩
  have hm0 : ¬ (m : Int) < 0 := by omega
  clear hn ho
  go_enter Try.func20, Try.ntmps20
  go_wp2_with fail
  refine (heldBG (.slice a n c) n 1 _ (Nat.le_refl _) (by omega) ho1).mono ?_
  rintro e w1 ⟨rfl, hw⟩
  rw [hm]
  subst hw
  go_wp2
  go_ret
  exact ⟨by rw [hm]; rfl, B0⟩
theorem RowB.keep {w w' : World} {v : Value} {n : Nat} {zs : List Int} (h : RowB w v n zs) (hb : Below w.heap.size w w') : RowB w' v n zs := h.block fun g hg => hb.block g (h.at_ hg).1
theorem RowB.gr {w w' : World} {v : Value} {n : Nat} {zs : List Int} {r : Option Nat} (h : RowB w v n zs) (hg : w.grownBy w' r) (hne : ∀ g, v.ownBlock = some g → some g ≠ r) : RowB w' v n zs := h.block fun g hv => hg.block g (h.at_ hv).1 (hne g hv)
theorem RowB.rd {w : World} {a : Option Addr} {c n : Nat} {zs : List Int} (h : RowB w (.slice a n c) n zs) : Rd w a zs := by
  obtain ⟨a', c', e, hr⟩ := h.form
  simp only [Value.slice.injEq, true_and] at e
  obtain ⟨rfl, _⟩ := e
  exact hr
theorem Own.rowB {w : World} {g n c : Nat} {zs : List Int} (h : Own w g n c zs) : RowB w (.slice (some ⟨g, 0, none⟩) n c) n zs := OwnV.rowB (B := 0) h
/-- What was changed lies at or behind B. -/
theorem below_gro {B : Nat} {w0 w w' : World} {r : Option Nat} (h : Below B w0 w) (hB : B ≤ w0.heap.size) (hg : w.grownBy w' r) (hr : ∀ g, r = some g → B ≤ g) : Below B w0 w' := h.grown hg (Nat.le_trans hB h.size) hr
/-- The bytes that are put: none, if there are none. -/
def opPut (D : OpD) : List Int := if opOk D = true then opEnc D else []
theorem opPut_len (D : OpD) (h : OpSmall D) : (opPut D).length ≤ 1048600 := by
  unfold opPut
  split
  · exact opEnc_len D h
  · simp
theorem putOpS (D : OpD) (a : Option Addr) (c : Nat) (w : World) (hm : OpSmall D) (hr : OpRd w D a) :
    Calls Try.prog 11 #[.agg (opC D a c)] w fun e w' => ∃ b d, e = .returned (.slice b (opPut D).length d) ∧ Rd w' b (opPut D) ∧ Below w.heap.size w w' := by
  unfold opPut
  cases hok : opOk D with
  | true =>
    simp only [if_true]
    exact (putOpS_yes D a c w hm hr hok).mono fun e w' ⟨g, d, h1, _, h3, h4⟩ => ⟨some ⟨g, 0, none⟩, d, h1, h3.rd, h4⟩
  | false =>
    simp only [Bool.false_eq_true, if_false, List.length_nil]
    exact (putOpS_no D a c w hok).mono fun e w' ⟨g, h1, h2⟩ => ⟨some ⟨g, 0, none⟩, 0, h1, .inl rfl, h2⟩
theorem putOpI (D : OpD) (a : Option Addr) (c : Nat) (w : World) (hm : OpSmall D) (hr : OpRd w D a) :
    Calls Try.prog 12 #[.agg (opC D a c)] w fun e w' => ∃ b d, e = .returned (.slice b (opPut D).length d) ∧ RowB w' (.slice b (opPut D).length d) (opPut D).length (opPut D) ∧ (∀ g, (Value.slice b (opPut D).length d).ownBlock = some g → w.heap.size ≤ g) ∧ Below w.heap.size w w' := by
  unfold opPut
  cases hok : opOk D with
  | true =>
    simp only [if_true]
    exact (putOpI_yes D a c w hm hr hok).mono fun e w' ⟨g, d, h1, h2, h3, h4⟩ => ⟨some ⟨g, 0, none⟩, d, h1, h3.rowB, fun k hk => by simp [Value.ownBlock] at hk; omega, h4⟩
  | false =>
    simp only [Bool.false_eq_true, if_false, List.length_nil]
    exact (putOpI_no D a c w hok).mono fun e w' ⟨h1, h2⟩ => ⟨none, 0, h1, RowB.nil _, fun k hk => by simp [Value.ownBlock] at hk, h2⟩
end Go.Proofs.Ytbnkmmgichlfbaa
