/-
  Joined: Mark, Path.
-/
import Derived.Test.YtmkcadnpleijdaaJ01U
namespace Go.Proofs.Ytmkcadnpleijdaa
section
open Go.RowKit
theorem encGo_len (f m : Nat) : (encGo f m).length ≤ f + 1 := by
  induction f generalizing m with
  | zero => simp [encGo]
  | succ f ih =>
    unfold encGo
    split
    · have := ih (m / 128); simp only [List.length_cons]; omega
    · simp
theorem enc_len (x : Int) : (enc x).length ≤ 4 := encGo_len 3 _
theorem Own.kept {w w' : World} {g n c g2 : Nat} {zs : List Int} (h : Own w g n c zs) (hg : w.grownBy w' (some g2)) (hne : g ≠ g2) : Own w' g n c zs :=
  World.ownsRow.kept h hg (.inr (by simp [Value.ownBlock, hne]))
end

section
abbrev Str := List UInt8
/-- A sign that a name may have. -/
def sign (c : UInt8) : Bool := (decide (97 ≤ c.toNat) && decide (c.toNat ≤ 122)) || (decide (48 ≤ c.toNat) && decide (c.toNat ≤ 57)) || decide (c.toNat = 95) || decide (c.toNat = 45) || decide (c.toNat = 46)
def nameOk (l : Str) : Bool := decide (1 ≤ l.length) && decide (l.length ≤ 14) && decide (l ≠ [46]) && decide (l ≠ [46, 46]) && l.all sign
end
end Go.Proofs.Ytmkcadnpleijdaa
