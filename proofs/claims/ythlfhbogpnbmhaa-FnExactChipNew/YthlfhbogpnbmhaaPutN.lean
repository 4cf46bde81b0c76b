/-
  Contracts for slices.Clone, putNums of one number and both PutNum functions.
-/
import Derived.Test.YthlfhbogpnbmhaaBaseN
import Derived.Laws.BitsAllLaws
import Derived.Maps.AppendAt
import Derived.Lib.SliceRun
namespace Go.Proofs.Ythlfhbogpnbmhaa
open Go.RowKit
theorem Rd.news {w : World} {ad : Addr} {zs : List Int} {m : Nat} (h : Rd w (some ad) zs) (hl : zs.length = m) : ∀ j, j < m → w.cell? (ad.add j) = some (.int .u8 (zs.getD j 0)) := by
  intro j hj
  rcases h with h | ⟨b, off, e, hc⟩
  · subst h; simp at hl; omega
  · obtain rfl : ad = ⟨b, off, none⟩ := by simpa using e
    have e' : (⟨b, off, none⟩ : Addr).add j = ⟨b, off + j, none⟩ := by simp [Addr.add]
    rw [e']; exact hc j (by omega)
theorem gr_refl (w : World) (r : Option Nat) : w.grownBy w r := ⟨rfl, rfl, rfl, Nat.le_refl _, fun _ _ _ => rfl⟩
end Go.Proofs.Ythlfhbogpnbmhaa
