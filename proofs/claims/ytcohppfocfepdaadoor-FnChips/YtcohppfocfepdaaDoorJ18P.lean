/-
  Joined: Fresh, ChRd.
-/
import Derived.Test.YtcohppfocfepdaaDoorJ10P
namespace Go.Proofs.YtcohppfocfepdaaDoor
section
open Go.RowKit
theorem empty_row (W : World) (B : Nat) (e : TypeId) (s : Nat) (hB : B ≤ W.heap.size) : (W.alloc (.cells #[] e)).ownsRow B e s (.slice (some ⟨W.heap.size, 0, none⟩) 0 0) 0 [] :=
  ⟨by simp, .inr ⟨W.heap.size, 0, #[], rfl, hB, heap_alloc_new W _, Nat.le_refl _, Nat.zero_le _, by simp, by simp⟩⟩
end

section
open Go.RowKit
theorem ownV_fresh {W : World} : OwnV 0 (W.alloc (.cells #[] 5)) (.slice (some ⟨W.heap.size, 0, none⟩) 0 0) 0 [] := empty_row W 0 5 1 (Nat.zero_le _)
end
end Go.Proofs.YtcohppfocfepdaaDoor
