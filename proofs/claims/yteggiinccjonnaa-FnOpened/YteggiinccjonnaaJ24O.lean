/-
  Joined: RecM, CrcF, RecS.
-/
import Derived.Test.YteggiinccjonnaaJ23O
import Derived.ArgAppend
namespace Go.Proofs.Yteggiinccjonnaa
section
open Go.ChangeShapes Go.WideShapes Go.ChangeAt Go.RowKit
/-- What a record tells. -/
structure RecD where
  kind : Int
  seq : Int
  body : List Int
/-- A record's cells: its bytes lie at a. -/
def recC (D : RecD) (a : Option Addr) (c : Nat) : Array Value := #[.int .i64 D.kind, .int .i64 D.seq, .slice a D.body.length c]
/-- Its bytes can be read. -/
def RecRd (w : World) (D : RecD) (a : Option Addr) : Prop := Rd w a D.body ∧ Byt D.body
theorem RecRd.keep {w w' : World} {D : RecD} {a : Option Addr} (h : RecRd w D a) (hb : Below w.heap.size w w') : RecRd w' D a := ⟨h.1.keep hb, h.2⟩
section
variable {H : Type} {enc : TypeId × Value → H} {w : World} {base : Nat} {held : Bool}
end
structure Thr (W : World) (B : Nat) (v0 v1 v2 : Value) : Prop where
  c0 : W.cell? ⟨B, 0, none⟩ = some v0
  c1 : W.cell? ⟨B, 1, none⟩ = some v1
  c2 : W.cell? ⟨B, 2, none⟩ = some v2
theorem Blk.thr {W : World} {B : Nat} {t : TypeId} {v0 v1 v2 : Value} (h : Blk W B t #[v0, v1, v2]) : Thr W B v0 v1 v2 := ⟨h.cell 0, h.cell 1, h.cell 2⟩
/-- A record that is right. -/
def recOk (D : RecD) : Bool := decide (1 ≤ D.kind) && decide (D.kind ≤ 4) && decide (0 ≤ D.seq) && decide (D.seq ≤ 1000000) && decide (D.body.length ≤ 380)
theorem recOk_iff (D : RecD) : recOk D = true ↔ 1 ≤ D.kind ∧ D.kind ≤ 4 ∧ 0 ≤ D.seq ∧ D.seq ≤ 1000000 ∧ D.body.length ≤ 380 := by
  unfold recOk
  simp only [Bool.and_eq_true, decide_eq_true_eq, and_assoc]
set_option maxHeartbeats 1600000 in
theorem recOkS (D : RecD) (a : Option Addr) (c : Nat) (w : World) (hm : D.body.length ≤ 4000000) :
    Calls Try.prog 51 #[.agg (recC D a c)] w fun e w' => e = .returned (.bool (recOk D)) ∧ Below w.heap.size w w' := by
  obtain ⟨kind, seq, body⟩ := D
  unfold recC recOk
  dsimp only at hm ⊢
  obtain ⟨n, hn⟩ : ∃ n, body.length = n := ⟨_, rfl⟩
  rw [hn] at hm ⊢
  clear hn
  have B0 : Below w.heap.size w (w.alloc (.cells #[.int .i64 kind, .int .i64 seq, .slice a n c] 46)) := (Below.refl _ w).alloc (Nat.le_refl _) _
  have i1 := fun W => l1In_any kind 1 4 W
  have i2 := fun W => l1In_any seq 0 1000000 W
  by_cases h1 : 1 ≤ kind ∧ kind ≤ 4
  · have e1 : (decide (1 ≤ kind) && decide (kind ≤ 4)) = true := by simp; omega
    rw [e1] at i1
    by_cases h2 : 0 ≤ seq ∧ seq ≤ 1000000
    · have e2 : (decide (0 ≤ seq) && decide (seq ≤ 1000000)) = true := by simp; omega
      rw [e2] at i2
      by_cases h5 : n ≤ 380
      · have h5' : (n : Int) ≤ 380 := by omega
        go_enter Try.func51, Try.ntmps51
        go_wp2_with fail
        refine (i1 _).mono ?_
        rintro e w1 ⟨rfl, hw⟩
        subst hw
        go_wp2_with fail
        refine (i2 _).mono ?_
        rintro e w1 ⟨rfl, hw⟩
        subst hw
        go_wp2
        go_ret
        exact ⟨by first | (simp; omega) | (simp; done) | (simp_all; done) | (simp_all; omega), B0⟩
      · have h5' : ¬ (n : Int) ≤ 380 := by omega
        go_enter Try.func51, Try.ntmps51
        go_wp2_with fail
        refine (i1 _).mono ?_
        rintro e w1 ⟨rfl, hw⟩
        subst hw
        go_wp2_with fail
        refine (i2 _).mono ?_
        rintro e w1 ⟨rfl, hw⟩
        subst hw
        go_wp2
        go_ret
        exact ⟨by first | (simp; omega) | (simp; done) | (simp_all; done) | (simp_all; omega), B0⟩
    · have e2 : (decide (0 ≤ seq) && decide (seq ≤ 1000000)) = false := by simp; omega
      rw [e2] at i2
      go_enter Try.func51, Try.ntmps51
      go_wp2_with fail
      refine (i1 _).mono ?_
      rintro e w1 ⟨rfl, hw⟩
      subst hw
      go_wp2_with fail
      refine (i2 _).mono ?_
      rintro e w1 ⟨rfl, hw⟩
      subst hw
      go_wp2
      go_ret
      exact ⟨by first | (simp; omega) | (simp; done) | (simp_all; done) | (simp_all; omega), B0⟩
  · have e1 : (decide (1 ≤ kind) && decide (kind ≤ 4)) = false := by simp; omega
    rw [e1] at i1
    go_enter Try.func51, Try.ntmps51
    go_wp2_with fail
    refine (i1 _).mono ?_
    rintro e w1 ⟨rfl, hw⟩
    subst hw
    go_wp2
    go_ret
    exact ⟨by first | (simp; omega) | (simp; done) | (simp_all; done) | (simp_all; omega), B0⟩
end

section
open Go.RowKit
set_option maxHeartbeats 800000 in
theorem specCrc_any (a : Option Addr) (n cap : Nat) (zs : List Int) (w : World) (hn : zs.length = n) (hs : n ≤ 4000000) (hr : Rd w a zs) (hb : Byt zs) :
    Calls Try.prog 50 #[.slice a n cap] w fun e w' => e = .returned (.int .i64 ((crcTo zs ^^^ 4294967295 : Nat) : Int)) ∧ w' = w := by
  by_cases h0 : n = 0
  · subst h0
    obtain rfl : zs = [] := List.length_eq_zero_iff.1 hn
    go_enter Try.func50, Try.ntmps50
    go_wp2
    refine wp_loop_rounds 1 ?_; rw [rounds_succ]
    go_wp2
    go_ret
    exact ⟨ret_int (last_in64 4294967295 (by omega)), rfl⟩
  · obtain ⟨b, off, rfl, hlt, hc⟩ := hr.lt (by intro h; subst h; simp at hn; omega)
    clear hr
    have hn' : Hid (zs.length = n) := hn
    clear hn
    go_enter Try.func50, Try.ntmps50
    go_wp2
    go_loop [3, 4] (fun x i => ∃ k X : Nat, k ≤ n ∧ i = .int .i64 k ∧ x = .int .i64 X ∧ X < 4294967296 ∧ Hid (X = crcTo (zs.take k))) (fun _ i => n - (intOf i).toNat)
    case atStart => exact ⟨0, 4294967295, Nat.zero_le _, rfl, rfl, by omega, rfl⟩
    case round =>
      obtain ⟨k, X, hk, rfl, rfl, hX, hXe⟩ := hrel
      by_cases hkn : k < n
      · have hcx := hc k (by rw [hn'.out]; exact hkn)
        obtain ⟨Z, hZ, hZ1⟩ := byt_at hb k
        rw [hZ] at hcx
        have hZe : Hid (zs.getD k 0 = (Z : Int)) := hZ
        clear hZ
        have hX0 : X ^^^ Z < 4294967296 := xor_lt32 hX (by omega)
        go_wp2
        go_loop [3, 5] (fun x i => ∃ j y : Nat, j ≤ 8 ∧ i = .int .i64 j ∧ x = .int .i64 y ∧ y < 4294967296 ∧ Hid (y = rndN j (X ^^^ Z))) (fun _ i => 8 - (intOf i).toNat)
        case atStart => exact ⟨0, X ^^^ Z, Nat.zero_le _, rfl, val_int (i64_xor_nat _ _ (by omega) (by omega)), hX0, rfl⟩
        case round =>
          obtain ⟨j, y, hj, rfl, rfl, hY, hYe⟩ := hrel
          by_cases hj8 : j < 8
          · by_cases ho : y % 2 = 1
            · have ht : (bits .and .i64 (y : Int) 1 == 1) = true := by rw [i64_and1 _ hY, ho]; rfl
              have ho' : Hid (y % 2 = 1) := ho
              clear ho
              go_wp2
              go_round
              case rel => exact ⟨j + 1, rnd y, by omega, by go_num, val_int (by rw [rnd_odd ho'.out]; exact half_in64 y hY), rnd_lt hY, rnd_step hYe.out⟩
              case measure => simp [intOf]; omega
            · have ht : (bits .and .i64 (y : Int) 1 == 1) = false := by
                rw [i64_and1 _ hY, beq_eq_false_iff_ne]; omega
              have ho' : Hid (¬ y % 2 = 1) := ho
              clear ho
              go_wp2
              go_round
              case rel => exact ⟨j + 1, rnd y, by omega, by go_num, val_int (by rw [rnd_even ho'.out]; rfl), rnd_lt hY, rnd_step hYe.out⟩
              case measure => simp [intOf]; omega
          · obtain rfl : j = 8 := by omega
            go_wp2
            go_round
            case rel => exact ⟨k + 1, y, by omega, by go_num, rfl, hY, by rw [← crc_round hn'.out hkn hXe.out hZe.out]; exact hYe⟩
            case measure => simp [intOf]; omega
      · go_wp2
        go_ret
        exact ⟨ret_int (by rw [last_in64 _ hX, hXe.out, List.take_of_length_le (by rw [hn'.out]; omega)]), rfl⟩
end

section
open Go.RowKit
/-- The sum of bytes, and its four bytes, the highest first. -/
def sumOf (zs : List Int) : Int := ((crcTo zs ^^^ 4294967295 : Nat) : Int)
def sum4 (s : Int) : List Int := [s / 16777216, s / 65536 % 256, s / 256 % 256, s % 256]
/-- Bytes with their sum. -/
def summedOf (zs : List Int) : List Int := zs ++ sum4 (sumOf zs)
theorem sumOf_lt (zs : List Int) (hb : Byt zs) : 0 ≤ sumOf zs ∧ sumOf zs < 4294967296 := by
  have := xor_lt32 (crcTo_lt zs hb) (show 4294967295 < 4294967296 by omega)
  unfold sumOf
  omega
theorem summedOf_len (zs : List Int) : (summedOf zs).length = zs.length + 4 := by simp [summedOf, sum4]
theorem four_news (w : World) (a b c d : Int) : ∀ j, j < 4 → (w.alloc (.cells #[.int .u8 a, .int .u8 b, .int .u8 c, .int .u8 d] 5)).cell? ((⟨w.heap.size, 0, none⟩ : Addr).add j) = some (.int .u8 (([a, b, c, d] : List Int).getD j 0)) := by
  intro j hj
  rw [add_at, (Blk.new w 5 #[.int .u8 a, .int .u8 b, .int .u8 c, .int .u8 d]).cell j]
  match j, hj with
  | 0, _ => rfl
  | 1, _ => rfl
  | 2, _ => rfl
  | 3, _ => rfl
end
end Go.Proofs.Yteggiinccjonnaa
