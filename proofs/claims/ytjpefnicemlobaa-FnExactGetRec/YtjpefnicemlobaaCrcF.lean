/-
  Both Crc functions, for every slice of at most 4,000,000 bytes.
-/
import Derived.Test.YtjpefnicemlobaaRows
import Derived.Test.YtjpefnicemlobaaBase
import Derived.Test.YtjpefnicemlobaaCrc
import Derived.WalkKit
import Derived.WalkSpells
import Derived.WalkLawsBesides
import Derived.Deep.QuietTactic
import Derived.BigQuiet
import Derived.OpenShut
import Derived.Laws.BitsAllLaws
namespace Go.Proofs.Ytjpefnicemlobaa
open Go.RowKit
set_option maxHeartbeats 800000 in
theorem implCrc_any (a : Option Addr) (n cap : Nat) (zs : List Int) (w : World) (hn : zs.length = n) (hs : n ≤ 4000000) (hr : Rd w a zs) (hb : Byt zs) :
    Calls Try.prog 45 #[.slice a n cap] w fun e w' => e = .returned (.int .i64 ((crcTo zs ^^^ 4294967295 : Nat) : Int)) ∧ w' = w := by
  by_cases h0 : n = 0
  · subst h0
    obtain rfl : zs = [] := List.length_eq_zero_iff.1 hn
    go_enter Try.func45, Try.ntmps45
    go_wp2
    refine wp_loop_rounds 1 ?_; rw [rounds_succ]
    go_wp2
    go_ret
    exact ⟨ret_int (last_in 4294967295 (by omega)), rfl⟩
  · obtain ⟨b, off, rfl, hlt, hc⟩ := hr.lt (by intro h; subst h; simp at hn; omega)
    clear hr
    have hn' : Hid (zs.length = n) := hn
    clear hn
    go_enter Try.func45, Try.ntmps45
    go_wp2
    go_loop [3, 9] (fun x i => ∃ k X : Nat, k ≤ n ∧ i = .int .i64 k ∧ x = .int .u32 X ∧ X < 4294967296 ∧ Hid (X = crcTo (zs.take k))) (fun _ i => n - (intOf i).toNat)
    case atStart => exact ⟨0, 4294967295, Nat.zero_le _, rfl, rfl, by omega, rfl⟩
    case round =>
      obtain ⟨k, X, hk, rfl, rfl, hX, hXe⟩ := hrel
      by_cases hkn : k < n
      · have hcx := hc k (by rw [hn'.out]; exact hkn)
        obtain ⟨Z, hZ, hZ1⟩ := byt_at hb k
        rw [hZ] at hcx
        have hZe : Hid (zs.getD k 0 = (Z : Int)) := hZ
        clear hZ
        have hX0 : X ^^^ Z < 4294967296 := xor_lt32 hX (by omega)
        go_wp2
        go_loop [3, 17] (fun x i => ∃ j y : Nat, j ≤ 8 ∧ i = .int .i64 j ∧ x = .int .u32 y ∧ y < 4294967296 ∧ Hid (y = rndN j (X ^^^ Z))) (fun _ i => 8 - (intOf i).toNat)
        case atStart => exact ⟨0, X ^^^ Z, Nat.zero_le _, rfl, val_int (u32_xor_nat _ _ hX (by omega)), hX0, rfl⟩
        case round =>
          obtain ⟨j, y, hj, rfl, rfl, hY, hYe⟩ := hrel
          by_cases hj8 : j < 8
          · by_cases ho : y % 2 = 1
            · have ht : (bits .and .u32 (y : Int) 1 == 1) = true := by rw [u32_and1 _ hY, ho]; rfl
              have ho' : Hid (y % 2 = 1) := ho
              clear ho
              go_wp2
              go_round
              case rel => exact ⟨j + 1, rnd y, by omega, by go_num, val_int (by rw [rnd_odd ho'.out]; exact half_in y hY), rnd_lt hY, rnd_step hYe.out⟩
              case measure => simp [intOf]; omega
            · have ht : (bits .and .u32 (y : Int) 1 == 1) = false := by
                rw [u32_and1 _ hY, beq_eq_false_iff_ne]; omega
              have ho' : Hid (¬ y % 2 = 1) := ho
              clear ho
              go_wp2
              go_round
              case rel => exact ⟨j + 1, rnd y, by omega, by go_num, val_int (by rw [rnd_even ho'.out]; rfl), rnd_lt hY, rnd_step hYe.out⟩
              case measure => simp [intOf]; omega
          · obtain rfl : j = 8 := by omega
            go_wp2
            go_round
            case rel => exact ⟨k + 1, y, by omega, by go_num, rfl, hY, by rw [← crc_round hn'.out hkn hXe.out hZe.out]; exact hYe⟩
            case measure => simp [intOf]; omega
      · go_wp2
        go_ret
        exact ⟨ret_int (by rw [last_in _ hX, hXe.out, List.take_of_length_le (by rw [hn'.out]; omega)]), rfl⟩
set_option maxHeartbeats 800000 in
theorem specCrc_any (a : Option Addr) (n cap : Nat) (zs : List Int) (w : World) (hn : zs.length = n) (hs : n ≤ 4000000) (hr : Rd w a zs) (hb : Byt zs) :
    Calls Try.prog 40 #[.slice a n cap] w fun e w' => e = .returned (.int .i64 ((crcTo zs ^^^ 4294967295 : Nat) : Int)) ∧ w' = w := by
  by_cases h0 : n = 0
  · subst h0
    obtain rfl : zs = [] := List.length_eq_zero_iff.1 hn
    go_enter Try.func40, Try.ntmps40
    go_wp2
    refine wp_loop_rounds 1 ?_; rw [rounds_succ]
    go_wp2
    go_ret
    exact ⟨ret_int (last_in64 4294967295 (by omega)), rfl⟩
  · obtain ⟨b, off, rfl, hlt, hc⟩ := hr.lt (by intro h; subst h; simp at hn; omega)
    clear hr
    have hn' : Hid (zs.length = n) := hn
    clear hn
    go_enter Try.func40, Try.ntmps40
    go_wp2
    go_loop [3, 4] (fun x i => ∃ k X : Nat, k ≤ n ∧ i = .int .i64 k ∧ x = .int .i64 X ∧ X < 4294967296 ∧ Hid (X = crcTo (zs.take k))) (fun _ i => n - (intOf i).toNat)
    case atStart => exact ⟨0, 4294967295, Nat.zero_le _, rfl, rfl, by omega, rfl⟩
    case round =>
      obtain ⟨k, X, hk, rfl, rfl, hX, hXe⟩ := hrel
      by_cases hkn : k < n
      · have hcx := hc k (by rw [hn'.out]; exact hkn)
        obtain ⟨Z, hZ, hZ1⟩ := byt_at hb k
        rw [hZ] at hcx
        have hZe : Hid (zs.getD k 0 = (Z : Int)) := hZ
        clear hZ
        have hX0 : X ^^^ Z < 4294967296 := xor_lt32 hX (by omega)
        go_wp2
        go_loop [3, 5] (fun x i => ∃ j y : Nat, j ≤ 8 ∧ i = .int .i64 j ∧ x = .int .i64 y ∧ y < 4294967296 ∧ Hid (y = rndN j (X ^^^ Z))) (fun _ i => 8 - (intOf i).toNat)
        case atStart => exact ⟨0, X ^^^ Z, Nat.zero_le _, rfl, val_int (i64_xor_nat _ _ (by omega) (by omega)), hX0, rfl⟩
        case round =>
          obtain ⟨j, y, hj, rfl, rfl, hY, hYe⟩ := hrel
          by_cases hj8 : j < 8
          · by_cases ho : y % 2 = 1
            · have ht : (bits .and .i64 (y : Int) 1 == 1) = true := by rw [i64_and1 _ hY, ho]; rfl
              have ho' : Hid (y % 2 = 1) := ho
              clear ho
              go_wp2
              go_round
              case rel => exact ⟨j + 1, rnd y, by omega, by go_num, val_int (by rw [rnd_odd ho'.out]; exact half_in64 y hY), rnd_lt hY, rnd_step hYe.out⟩
              case measure => simp [intOf]; omega
            · have ht : (bits .and .i64 (y : Int) 1 == 1) = false := by
                rw [i64_and1 _ hY, beq_eq_false_iff_ne]; omega
              have ho' : Hid (¬ y % 2 = 1) := ho
              clear ho
              go_wp2
              go_round
              case rel => exact ⟨j + 1, rnd y, by omega, by go_num, val_int (by rw [rnd_even ho'.out]; rfl), rnd_lt hY, rnd_step hYe.out⟩
              case measure => simp [intOf]; omega
          · obtain rfl : j = 8 := by omega
            go_wp2
            go_round
            case rel => exact ⟨k + 1, y, by omega, by go_num, rfl, hY, by rw [← crc_round hn'.out hkn hXe.out hZe.out]; exact hYe⟩
            case measure => simp [intOf]; omega
      · go_wp2
        go_ret
        exact ⟨ret_int (by rw [last_in64 _ hX, hXe.out, List.take_of_length_le (by rw [hn'.out]; omega)]), rfl⟩
end Go.Proofs.Ytjpefnicemlobaa
