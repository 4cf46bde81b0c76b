/-
  How big a table of the laws is, and how much of the measure it takes.
-/
import Derived.Test.YthlfhbogpnbmhaaCrcL
import Derived.Maps.AppendAt
import Derived.Lib.SliceRun
import Derived.Lib.Strings
import Derived.Deep.RegionWith
import Derived.Laws.IdiomStrings
import Derived.Deep.Slices
import Derived.ProofKit
import Derived.ChangeOld
import Derived.Below
namespace Go.Proofs.Ythlfhbogpnbmhaa
open Go.RowKit
/-- What the measuring functions answer: below 0, or what is left of x when c is taken, and P. -/
def SzQ (x c : Nat) (P : Prop) (e : Ending) : Prop := e = .returned (.int .i64 (-1)) ∨ ∃ v : Nat, v + c ≤ x ∧ e = .returned (.int .i64 v) ∧ P
set_option maxHeartbeats 400000 in
theorem szByteS_w (a : Option Addr) (n cap x : Nat) (w : World) (hn : n ≤ maxLen) (hx : x ≤ 1048576) :
    Calls Try.prog 71 #[.slice a n cap, .int .i64 x] w fun e w' => SzQ x n (n ≤ 1048576) e ∧ Below w.heap.size w w' := by
  unfold maxLen at hn
  by_cases h : x < n
  · have h1 : ((x : Int) - (n : Int)) < 0 := by omega
    go_enter Try.func71, Try.ntmps71
    go_wp2
    go_ret
    exact ⟨.inl rfl, Below.refl _ _⟩
  · have h1 : ¬ ((x : Int) - (n : Int)) < 0 := by omega
    go_enter Try.func71, Try.ntmps71
    go_wp2
    go_ret
    exact ⟨.inr ⟨x - n, by omega, ret_int (by omega), by omega⟩, Below.refl _ _⟩
end Go.Proofs.Ythlfhbogpnbmhaa
