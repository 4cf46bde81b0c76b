/-
  Contracts for markByteS and heldByteS of the laws, over a row of the call's own.
-/
import Derived.Test.YtmkcadnpleijdaaPutQ
namespace Go.Proofs.Ytmkcadnpleijdaa
open Go.RowKit
theorem encGo_len (f m : Nat) : (encGo f m).length ≤ f + 1 := by
  induction f generalizing m with
  | zero => simp [encGo]
  | succ f ih =>
    unfold encGo
    split
    · have := ih (m / 128); simp only [List.length_cons]; omega
    · simp
theorem enc_len (x : Int) : (enc x).length ≤ 4 := encGo_len 3 _
/-- What a row of n cells holds when it is marked from 1 on. -/
def marks (n : Nat) : List Int := (List.range n).map (fun i : Nat => ((i : Int) + 1) % 256)
theorem Own.kept {w w' : World} {g n c g2 : Nat} {zs : List Int} (h : Own w g n c zs) (hg : w.grownBy w' (some g2)) (hne : g ≠ g2) : Own w' g n c zs :=
  World.ownsRow.kept h hg (.inr (by simp [Value.ownBlock, hne]))
end Go.Proofs.Ytmkcadnpleijdaa

