/-
  What is kept while an inode is read or copied: blocks by their type; rows of bytes and of pairs, grown by one.
-/
import Derived.Test.YthlfhbogpnbmhaaPutsN
import Derived.ProofKit
import Derived.ChangeOld
import Derived.Below
import Derived.Deep.DeepCutAuto
import Derived.Lib.ConvBytes
import Derived.Deep.RegionHeld3
import Derived.Deep.AppendLies
namespace Go.Proofs.Ythlfhbogpnbmhaa
open Go.RowKit
theorem OwnV.drew {B : Nat} {w : World} {v : Value} {n : Nat} {zs : List Int} (h : OwnV B w v n zs) : OwnV B w.drew v n zs := h
theorem Blk.drew {w : World} {B : Nat} {t : TypeId} {vs : Array Value} (h : Blk w B t vs) : Blk w.drew B t vs := h
theorem pair_news (w : World) (p : VP) (t : TypeId) : ∀ j u, [p.1, p.2][j]? = some u → (w.alloc (.cells #[p.1, p.2] t)).cell? ((⟨w.heap.size, 0, none⟩ : Addr).add j) = some u := by
  intro j u hj
  rw [add_at, (Blk.new w t #[p.1, p.2]).cell j]
  match j, hj with
  | 0, hj => simpa using hj
  | 1, hj => simpa using hj
  | j + 2, hj => simp at hj
end Go.Proofs.Ythlfhbogpnbmhaa
