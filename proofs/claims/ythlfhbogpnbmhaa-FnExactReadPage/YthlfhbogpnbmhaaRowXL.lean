/-
  Rows of bytes kept by calls that leave their blocks of memory.
-/
import Derived.Test.YthlfhbogpnbmhaaElL
namespace Go.Proofs.Ythlfhbogpnbmhaa
open Go.RowKit
theorem RowB.keepB {w w' : World} {v : Value} {n : Nat} {zs : List Int} (h : RowB w v n zs) (hb : Below w.heap.size w w') : RowB w' v n zs := h.block fun g hg => hb.block g (h.at_ hg).1
theorem RowB.svs {w w' : World} {v : Value} {n : Nat} {zs : List Int} {F : List Nat} (h : RowB w v n zs) (k : Sv F w w') (hd : ∀ g, v.ownBlock = some g → g ∉ F) : RowB w' v n zs := h.block fun g hg => k.block g (h.at_ hg).1 (hd g hg)
theorem RowB.rdS {w : World} {a : Option Addr} {n c m : Nat} {zs : List Int} (h : RowB w (.slice a n c) m zs) : Rd w a zs := by
  obtain ⟨a', c', e, r⟩ := h.form
  simp only [Value.slice.injEq] at e
  rw [e.1]; exact r
end Go.Proofs.Ythlfhbogpnbmhaa
