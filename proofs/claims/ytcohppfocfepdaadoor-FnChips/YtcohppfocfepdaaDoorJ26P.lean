/-
  Joined: DvI, DvN.
-/
import Derived.Test.YtcohppfocfepdaaDoorJ14P
import Derived.LaidEql
import Derived.Stop.Asserts
import Derived.RowKitTokens
import Derived.Maps.OwnSet
import Derived.Maps.OwnOps
namespace Go.Proofs.YtcohppfocfepdaaDoor
section
open Go.RowKit
theorem FO.other {w0 wr w' : World} {F G n X : Nat} {ks : List FkR} (h : FO w0 wr F G n ks) (hs : Sv [X] wr w') (hX : w0.heap.size ≤ X) (hf : X ≠ F) (hg : X ≠ G) : FO w0 w' F G n ks :=
  ⟨Below.svs h.bel hs (fun g hg => by simp at hg; omega) (Nat.le_refl _), Blk.svs h.f hs (by simp; omega), h.g.block fun j hj => by
    simp [Value.ownBlock] at hj
    subst hj
    exact hs.block _ (h.g.lt (g := G) rfl) (by simp; omega), h.fn, h.gn, h.ne⟩
end

section
open Go.RowKit
theorem NewBs.cr {w : World} {B n c : Nat} {a : Option Addr} {ds : List BkD} {qs : List BkR} (h : NewBs w B (.slice a n c) ds qs) (hl : qs.length = n) (ht : totB ds ≤ 1048576) : CR w a n qs := ⟨hl, by rw [h.D]; exact ht, h.rd⟩
end
end Go.Proofs.YtcohppfocfepdaaDoor
