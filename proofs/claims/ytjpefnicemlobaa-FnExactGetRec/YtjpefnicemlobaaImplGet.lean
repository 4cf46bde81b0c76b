/-
  What the program's GetInode answers.
-/
import Derived.Test.YtjpefnicemlobaaRows
import Derived.Test.YtjpefnicemlobaaBase
import Derived.Test.YtjpefnicemlobaaPairs
import Derived.Test.YtjpefnicemlobaaPuts
import Derived.Test.YtjpefnicemlobaaMarkIno
import Derived.Test.YtjpefnicemlobaaKept
import Derived.Test.YtjpefnicemlobaaClosI
import Derived.Test.YtjpefnicemlobaaGetS
import Derived.Test.YtjpefnicemlobaaGetX
import Derived.WalkKit
import Derived.WalkSpells
import Derived.WalkLawsBesides
import Derived.Deep.QuietTactic
import Derived.BigQuiet
import Derived.OpenShut
import Derived.Laws.BitsAllLaws
import Derived.Maps.AppendAt
import Derived.Lib.SliceRun
import Derived.Lib.Strings
import Derived.Deep.RegionWith
import Derived.Laws.IdiomStrings
import Derived.Deep.Slices
import Derived.ProofKit
import Derived.ChangeOld
import Derived.Below
import Derived.Deep.DeepCutAuto
import Derived.Lib.AppendStr
import Derived.Lib.ConvBytes
import Derived.Deep.RegionHeld3
import Derived.Deep.AppendLies
import Derived.Laws.StructEq
import Derived.Laws.BytesString
import Derived.Deep.CutBlock
import Derived.Deep.RegionLaw
namespace Go.Proofs.Ytjpefnicemlobaa
open Go.RowKit
theorem below_but {B : Nat} {w0 W W' : World} {r1 r2 : Nat} (h : Below B w0 W) (g : But W W' (some r1) (some r2) none) (hB : B ≤ w0.heap.size) (h1 : B ≤ r1) (h2 : B ≤ r2) : Below B w0 W' := by
  have hs := h.size
  refine ⟨by rw [g.os, h.os], by rw [g.tape, h.tape], by rw [g.output, h.output], Nat.le_trans h.size g.size, fun k hk => ?_⟩
  rw [g.block k (by omega) (by simp; omega) (by simp; omega) (by simp)]
  exact h.block k hk
theorem RI.keep {W W' : World} {H : Nat} {a : Option Addr} {n cap : Nat} {st : Option Nat} (h : RI W H a n cap st) (hb : Below W.heap.size W W') : RI W' H a n cap st := h.kp (KpT.below hb [22, 3, 4]) (by decide) (by decide) (by decide)
end Go.Proofs.Ytjpefnicemlobaa
