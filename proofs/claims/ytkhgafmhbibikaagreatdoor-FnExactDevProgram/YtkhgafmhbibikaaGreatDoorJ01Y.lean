/-
  Joined: Put, Mark, Path.
-/
import Derived.Test.YtkhgafmhbibikaaGreatDoorJ00Y
import Derived.Maps.AppendAt
import Derived.Lib.SliceRun
namespace Go.Proofs.YtkhgafmhbibikaaGreatDoor
section
open Go.RowKit
theorem Rd.news {w : World} {ad : Addr} {zs : List Int} {m : Nat} (h : Rd w (some ad) zs) (hl : zs.length = m) : ∀ j, j < m → w.cell? (ad.add j) = some (.int .u8 (zs.getD j 0)) := by
  intro j hj
  rcases h with h | ⟨b, off, e, hc⟩
  · subst h; simp at hl; omega
  · obtain rfl : ad = ⟨b, off, none⟩ := by simpa using e
    have e' : (⟨b, off, none⟩ : Addr).add j = ⟨b, off + j, none⟩ := by simp [Addr.add]
    rw [e']; exact hc j (by omega)
/-- The groups of a number, fuel f. -/
def encGo : Nat → Nat → List Int
  | 0, m => [(m : Int)]
  | f + 1, m => if 128 ≤ m then ((m % 128 + 128 : Nat) : Int) :: encGo f (m / 128) else [(m : Int)]
def clamp (x : Int) : Nat := (min (max x 0) 1000000).toNat
def enc (x : Int) : List Int := encGo 3 (clamp x)
theorem gr_refl (w : World) (r : Option Nat) : w.grownBy w r := ⟨rfl, rfl, rfl, Nat.le_refl _, fun _ _ _ => rfl⟩
end

section
open Go.RowKit
/-- What a row of n cells holds when it is marked from 1 on. -/
def marks (n : Nat) : List Int := (List.range n).map (fun i : Nat => ((i : Int) + 1) % 256)
theorem Own.kept {w w' : World} {g n c g2 : Nat} {zs : List Int} (h : Own w g n c zs) (hg : w.grownBy w' (some g2)) (hne : g ≠ g2) : Own w' g n c zs :=
  World.ownsRow.kept h hg (.inr (by simp [Value.ownBlock, hne]))
end

section
abbrev Str := List UInt8
end
end Go.Proofs.YtkhgafmhbibikaaGreatDoor
