/-
  What the law on InodeAt needs.
-/
import Derived.Test.YtgcmpimckpnemaaRows
import Derived.Test.YtgcmpimckpnemaaPairsU
import Derived.Test.YtgcmpimckpnemaaInodeU
import Derived.Test.YtgcmpimckpnemaaTabMU
import Derived.Test.YtgcmpimckpnemaaTabWU
import Derived.Test.YtgcmpimckpnemaaMKU
import Derived.Test.YtgcmpimckpnemaaMarkTabU
import Derived.Test.YtgcmpimckpnemaaToJU
import Derived.Test.YtgcmpimckpnemaaSzWU
import Derived.WalkKit
import Derived.WalkSpells
import Derived.WalkLawsBesides
import Derived.Deep.QuietTactic
import Derived.BigQuiet
import Derived.OpenShut
import Derived.Laws.BitsAllLaws
import Derived.Maps.AppendAt
import Derived.Lib.SliceRun
import Derived.Lib.Strings
import Derived.Deep.RegionWith
import Derived.Laws.IdiomStrings
import Derived.Deep.Slices
import Derived.ProofKit
import Derived.ChangeOld
import Derived.Below
import Derived.Deep.RegionHeld3
import Derived.Deep.DeepCutAuto
import Derived.Lib.AppendStr
import Derived.Lib.ConvBytes
import Derived.Deep.AppendLies
import Derived.Deep.AppendSrc
import Derived.Maps.OwnSet
import Derived.Maps.OwnOps
import Derived.Lib.Slices
import Derived.Lib.Walk
import Derived.Lib.Bytealg
import Derived.Lib.IndexLaws
import Derived.Lib.BufferWrite
import Derived.Lib.UnsafeStr
import Derived.Laws.MakeOwn
import Derived.Laws.Strings3
import Derived.Deep.RegionLaw
namespace Go.Proofs.Ytgcmpimckpnemaa
open Go.RowKit
def costD (D : InoD) : Nat := 3 + D.data.length + 2 * D.ents.length + 2 * D.attrs.length
theorem cost_sum (rs : List InoR) : ((rs.map InoR.D).map costD).sum ≤ 3 * rs.length + 2 * cntI rs := by
  unfold cntI
  induction rs with
  | nil => simp
  | cons r rs ih =>
    simp only [List.map_cons, List.sum_cons, List.length_cons]
    unfold costD at ih ⊢
    omega
theorem q_bound {rs : List InoR} {js : List InoJ} {n : Nat} (h : (js.map InoJ.r).map InoR.D = rs.map InoR.D) (hn : rs.length = n) (hc : n + cntI rs ≤ 1048576) : qAt 1 js n ≤ 9999990 := by
  have hl : js.length = n := by have := congrArg List.length h; simp at this; omega
  unfold qAt
  rw [List.take_of_length_le (by omega), show js.map InoJ.cost = ((js.map InoJ.r).map InoR.D).map costD by simp [InoJ.cost, costD, Function.comp_def], h]
  have := cost_sum rs
  omega
theorem BoxT.outs {W W' : World} {b B T : Nat} {t : TypeId} {a : Option Addr} {n cap : Nat} {nx : Int} (h : BoxT W b t a n cap nx) (k : Out B T W W') (hb : b < B ∨ T ≤ b) : BoxT W' b t a n cap nx := Blk.outs h k hb
end Go.Proofs.Ytgcmpimckpnemaa
