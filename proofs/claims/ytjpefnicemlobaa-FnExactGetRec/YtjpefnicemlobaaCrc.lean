/-
  Contracts for both Crc functions, for every slice of at most 4,000,000 bytes: each answers crcTo of its bytes, all 32 bits turned.
-/
import Derived.Test.YtjpefnicemlobaaRows
import Derived.Test.YtjpefnicemlobaaBase
import Derived.WalkKit
import Derived.WalkSpells
import Derived.WalkLawsBesides
import Derived.Deep.QuietTactic
import Derived.BigQuiet
import Derived.OpenShut
import Derived.Laws.BitsAllLaws
namespace Go.Proofs.Ytjpefnicemlobaa
open Go.RowKit
/-- One round of the sum, on numbers. -/
def rnd (x : Nat) : Nat := if x % 2 = 1 then (x / 2) ^^^ 2197175160 else x / 2
def rndN : Nat → Nat → Nat
  | 0, x => x
  | k + 1, x => rnd (rndN k x)
def crcTo (zs : List Int) : Nat := zs.foldl (fun x c => rndN 8 (x ^^^ c.toNat)) 4294967295
theorem xor_lt32 {a b : Nat} (ha : a < 4294967296) (hb : b < 4294967296) : a ^^^ b < 4294967296 := Nat.xor_lt_two_pow (n := 32) ha hb
theorem rnd_lt {x : Nat} (h : x < 4294967296) : rnd x < 4294967296 := by
  unfold rnd
  split
  · exact xor_lt32 (by omega) (by omega)
  · omega
theorem rndN_lt {x : Nat} (h : x < 4294967296) (k : Nat) : rndN k x < 4294967296 := by
  induction k with
  | zero => exact h
  | succ k ih => exact rnd_lt ih
theorem rnd_odd {x : Nat} (h : x % 2 = 1) : rnd x = (x / 2) ^^^ 2197175160 := by unfold rnd; rw [if_pos h]
theorem rnd_even {x : Nat} (h : ¬ x % 2 = 1) : rnd x = x / 2 := by unfold rnd; rw [if_neg h]
theorem crcTo_snoc (zs : List Int) (k : Nat) (h : k < zs.length) : crcTo (zs.take (k + 1)) = rndN 8 (crcTo (zs.take k) ^^^ (zs.getD k 0).toNat) := by
  unfold crcTo
  rw [List.take_succ_eq_append_getElem h, List.foldl_append]
  simp [h]
theorem getD_byt {zs : List Int} (hb : Byt zs) (k : Nat) : 0 ≤ zs[k]?.getD 0 ∧ zs[k]?.getD 0 ≤ 255 := by
  by_cases h : k < zs.length
  · rw [List.getElem?_eq_getElem h]; exact hb _ (List.getElem_mem h)
  · rw [List.getElem?_eq_none (by omega)]; simp
theorem Byt.take {zs : List Int} (hb : Byt zs) (k : Nat) : Byt (zs.take k) := fun z hz => hb z (List.mem_of_mem_take hz)
theorem crcTo_lt (zs : List Int) (hb : Byt zs) : crcTo zs < 4294967296 := by
  unfold crcTo
  suffices H : ∀ (l : List Int) (x : Nat), Byt l → x < 4294967296 → l.foldl (fun x c => rndN 8 (x ^^^ c.toNat)) x < 4294967296 from H zs _ hb (by omega)
  intro l
  induction l with
  | nil => intro x _ hx; exact hx
  | cons c l ih =>
    intro x hl hx
    rw [List.foldl_cons]
    have hc := hl c (by simp)
    exact ih _ (fun z hz => hl z (by simp [hz])) (rndN_lt (xor_lt32 hx (by omega)) 8)
theorem u32_and1 (y : Nat) (h : y < 4294967296) : bits .and .u32 (y : Int) 1 = ((y % 2 : Nat) : Int) := by
  have := u32_and_nat y 1 h (by omega)
  rw [nat_mask1] at this
  exact this
theorem i64_nat (a : Nat) (ha : a < 9223372036854775808) : (BitVec.ofInt 64 (a : Int)).toNat = a := by
  rw [BitVec.ofInt_natCast, BitVec.toNat_ofNat]; exact Nat.mod_eq_of_lt (by omega)
theorem i64_xor_nat (a b : Nat) (ha : a < 9223372036854775808) (hb : b < 9223372036854775808) : bits .xor .i64 (a : Int) (b : Int) = ((a ^^^ b : Nat) : Int) := by
  have hx : a ^^^ b < 2 ^ 63 := Nat.xor_lt_two_pow (by omega) (by omega)
  show IntKind.i64.wrap ((BitVec.ofInt 64 (a : Int) ^^^ BitVec.ofInt 64 (b : Int)).toNat : Int) = _
  rw [BitVec.toNat_xor, i64_nat a ha, i64_nat b hb, IntKind.wrap_i64]
  omega
theorem i64_and_nat (a b : Nat) (ha : a < 9223372036854775808) (hb : b < 9223372036854775808) : bits .and .i64 (a : Int) (b : Int) = ((a &&& b : Nat) : Int) := by
  have hx : a &&& b < 2 ^ 63 := Nat.and_lt_two_pow _ (by omega)
  show IntKind.i64.wrap ((BitVec.ofInt 64 (a : Int) &&& BitVec.ofInt 64 (b : Int)).toNat : Int) = _
  rw [BitVec.toNat_and, i64_nat a ha, i64_nat b hb, IntKind.wrap_i64]
  omega
theorem i64_or_nat (a b : Nat) (ha : a < 9223372036854775808) (hb : b < 9223372036854775808) : bits .or .i64 (a : Int) (b : Int) = ((a ||| b : Nat) : Int) := by
  have hx : a ||| b < 2 ^ 63 := Nat.or_lt_two_pow (by omega) (by omega)
  show IntKind.i64.wrap ((BitVec.ofInt 64 (a : Int) ||| BitVec.ofInt 64 (b : Int)).toNat : Int) = _
  rw [BitVec.toNat_or, i64_nat a ha, i64_nat b hb, IntKind.wrap_i64]
  omega
theorem i64_and1 (y : Nat) (h : y < 4294967296) : bits .and .i64 (y : Int) 1 = ((y % 2 : Nat) : Int) := by
  have := i64_and_nat y 1 (by omega) (by omega)
  rw [nat_mask1] at this
  exact this
theorem ret_int {k : IntKind} {a b : Int} (h : a = b) : Ending.returned (.int k a) = .returned (.int k b) := by rw [h]
theorem val_int {k : IntKind} {a b : Int} (h : a = b) : Value.int k a = .int k b := by rw [h]
theorem byt_at {zs : List Int} (hb : Byt zs) (k : Nat) : ∃ Z : Nat, zs.getD k 0 = (Z : Int) ∧ Z ≤ 255 := by
  have := getD_byt hb k
  refine ⟨(zs.getD k 0).toNat, ?_, ?_⟩ <;> simp <;> omega
theorem half_in (y : Nat) (h : y < 4294967296) : bits .xor .u32 ((y : Int) / 2) 2197175160 = (((y / 2) ^^^ 2197175160 : Nat) : Int) := by
  have := u32_xor_nat (y / 2) 2197175160 (by omega) (by omega)
  rw [← this]; rfl
theorem half_in64 (y : Nat) (h : y < 4294967296) : bits .xor .i64 ((y : Int) / 2) 2197175160 = (((y / 2) ^^^ 2197175160 : Nat) : Int) := by
  have := i64_xor_nat (y / 2) 2197175160 (by omega) (by omega)
  rw [← this]; rfl
theorem last_in (x : Nat) (hx : x < 4294967296) : wrap64 (bits .xor .u32 IntKind.u32.max (x : Int)) = ((x ^^^ 4294967295 : Nat) : Int) := by
  have e : IntKind.u32.max = ((4294967295 : Nat) : Int) := by simp [IntKind.max, IntKind.bits, IntKind.signed]
  rw [e, u32_xor_nat _ _ (by omega) hx, Nat.xor_comm]
  have := xor_lt32 hx (show 4294967295 < 4294967296 by omega)
  exact IntWalk.wrap64_in _ (by omega)
theorem last_in64 (x : Nat) (hx : x < 4294967296) : bits .xor .i64 (x : Int) 4294967295 = ((x ^^^ 4294967295 : Nat) : Int) := i64_xor_nat x 4294967295 (by omega) (by omega)
theorem rnd_step {y x j : Nat} (h : y = rndN j x) : rnd y = rndN (j + 1) x := by rw [h]; rfl
theorem crc_round {zs : List Int} {n k X Z : Nat} (hn : zs.length = n) (hk : k < n) (hX : X = crcTo (zs.take k)) (hZ : zs.getD k 0 = (Z : Int)) : rndN 8 (X ^^^ Z) = crcTo (zs.take (k + 1)) := by
  rw [crcTo_snoc zs k (by omega), hZ, hX, Int.toNat_natCast]
end Go.Proofs.Ytjpefnicemlobaa
