/-
  Joined: RecM, CrcF, RecS.
-/
import Derived.Test.YtpejfkgbfdkdnaaJ24B
import Derived.ArgAppend
namespace Go.Proofs.Ytpejfkgbfdkdnaa
section
open Go.ChangeShapes Go.WideShapes Go.ChangeAt Go.RowKit
/-- What a record tells. -/
structure RecD where
  kind : Int
  seq : Int
  body : List Int
/-- A record's cells: its bytes lie at a. -/
def recC (D : RecD) (a : Option Addr) (c : Nat) : Array Value := #[.int .i64 D.kind, .int .i64 D.seq, .slice a D.body.length c]
/-- Its bytes can be read. -/
def RecRd (w : World) (D : RecD) (a : Option Addr) : Prop := Rd w a D.body ∧ Byt D.body
theorem RecRd.keep {w w' : World} {D : RecD} {a : Option Addr} (h : RecRd w D a) (hb : Below w.heap.size w w') : RecRd w' D a := ⟨h.1.keep hb, h.2⟩
section
variable {H : Type} {enc : TypeId × Value → H} {w : World} {base : Nat} {held : Bool}
end
structure Thr (W : World) (B : Nat) (v0 v1 v2 : Value) : Prop where
  c0 : W.cell? ⟨B, 0, none⟩ = some v0
  c1 : W.cell? ⟨B, 1, none⟩ = some v1
  c2 : W.cell? ⟨B, 2, none⟩ = some v2
theorem Blk.thr {W : World} {B : Nat} {t : TypeId} {v0 v1 v2 : Value} (h : Blk W B t #[v0, v1, v2]) : Thr W B v0 v1 v2 := ⟨h.cell 0, h.cell 1, h.cell 2⟩
theorem set3_blk {W : World} {X : Nat} {t : TypeId} {u0 u1 u2 : Value} (h : Blk W X t #[u0, u1, u2]) (v0 v1 v2 : Value) : Blk (((W.setCell ⟨X, 0, none⟩ v0).setCell ⟨X, 1, none⟩ v1).setCell ⟨X, 2, none⟩ v2) X t #[v0, v1, v2] := ((h.set 0 v0).set 1 v1).set 2 v2
theorem set3_gr (W : World) (X : Nat) (v0 v1 v2 : Value) : W.grownBy (((W.setCell ⟨X, 0, none⟩ v0).setCell ⟨X, 1, none⟩ v1).setCell ⟨X, 2, none⟩ v2) (some X) := ((gr_setC W X 0 v0).trans (gr_setC _ X 1 v1)).trans (gr_setC _ X 2 v2)
/-- A record that is right. -/
def recOk (D : RecD) : Bool := decide (1 ≤ D.kind) && decide (D.kind ≤ 4) && decide (0 ≤ D.seq) && decide (D.seq ≤ 1000000) && decide (D.body.length ≤ 380)
theorem recOk_iff (D : RecD) : recOk D = true ↔ 1 ≤ D.kind ∧ D.kind ≤ 4 ∧ 0 ≤ D.seq ∧ D.seq ≤ 1000000 ∧ D.body.length ≤ 380 := by
  unfold recOk
  simp only [Bool.and_eq_true, decide_eq_true_eq, and_assoc]
set_option maxHeartbeats 1600000 in
theorem recOkI (D : RecD) (a : Option Addr) (c : Nat) (w : World) (hm : D.body.length ≤ 4000000) :
    Calls Try.prog 65 #[.agg (recC D a c)] w fun e w' => e = .returned (.bool (recOk D)) ∧ Below w.heap.size w w' := by
  obtain ⟨kind, seq, body⟩ := D
  unfold recC recOk
  dsimp only at hm ⊢
  obtain ⟨n, hn⟩ : ∃ n, body.length = n := ⟨_, rfl⟩
  rw [hn] at hm ⊢
  clear hn
  have B0 : Below w.heap.size w (w.alloc (.cells #[.int .i64 kind, .int .i64 seq, .slice a n c] 46)) := (Below.refl _ w).alloc (Nat.le_refl _) _
  by_cases h1 : 1 ≤ kind
  · by_cases h2 : kind ≤ 4
    · by_cases h3 : 0 ≤ seq
      · by_cases h4 : seq ≤ 1000000
        · by_cases h5 : n ≤ 380
          · have h5' : (n : Int) ≤ 380 := by omega
            go_enter Try.func65, Try.ntmps65
            go_wp2
            go_ret
            exact ⟨by first | (simp; omega) | (simp; done) | (simp_all; done) | (simp_all; omega), B0⟩
          · have h5' : ¬ (n : Int) ≤ 380 := by omega
            go_enter Try.func65, Try.ntmps65
            go_wp2
            go_ret
            exact ⟨by first | (simp; omega) | (simp; done) | (simp_all; done) | (simp_all; omega), B0⟩
        · go_enter Try.func65, Try.ntmps65
          go_wp2
          go_ret
          exact ⟨by first | (simp; omega) | (simp; done) | (simp_all; done) | (simp_all; omega), B0⟩
      · go_enter Try.func65, Try.ntmps65
        go_wp2
        go_ret
        exact ⟨by first | (simp; omega) | (simp; done) | (simp_all; done) | (simp_all; omega), B0⟩
    · go_enter Try.func65, Try.ntmps65
      go_wp2
      go_ret
      exact ⟨by first | (simp; omega) | (simp; done) | (simp_all; done) | (simp_all; omega), B0⟩
  · go_enter Try.func65, Try.ntmps65
    go_wp2
    go_ret
    exact ⟨by first | (simp; omega) | (simp; done) | (simp_all; done) | (simp_all; omega), B0⟩
set_option maxHeartbeats 1600000 in
theorem recOkS (D : RecD) (a : Option Addr) (c : Nat) (w : World) (hm : D.body.length ≤ 4000000) :
    Calls Try.prog 51 #[.agg (recC D a c)] w fun e w' => e = .returned (.bool (recOk D)) ∧ Below w.heap.size w w' := by
  obtain ⟨kind, seq, body⟩ := D
  unfold recC recOk
  dsimp only at hm ⊢
  obtain ⟨n, hn⟩ : ∃ n, body.length = n := ⟨_, rfl⟩
  rw [hn] at hm ⊢
  clear hn
  have B0 : Below w.heap.size w (w.alloc (.cells #[.int .i64 kind, .int .i64 seq, .slice a n c] 46)) := (Below.refl _ w).alloc (Nat.le_refl _) _
  have i1 := fun W => l1In_any kind 1 4 W
  have i2 := fun W => l1In_any seq 0 1000000 W
  by_cases h1 : 1 ≤ kind ∧ kind ≤ 4
  · have e1 : (decide (1 ≤ kind) && decide (kind ≤ 4)) = true := by simp; omega
    rw [e1] at i1
    by_cases h2 : 0 ≤ seq ∧ seq ≤ 1000000
    · have e2 : (decide (0 ≤ seq) && decide (seq ≤ 1000000)) = true := by simp; omega
      rw [e2] at i2
      by_cases h5 : n ≤ 380
      · have h5' : (n : Int) ≤ 380 := by omega
        go_enter Try.func51, Try.ntmps51
        go_wp2_with fail
        refine (i1 _).mono ?_
        rintro e w1 ⟨rfl, hw⟩
        subst hw
        go_wp2_with fail
        refine (i2 _).mono ?_
        rintro e w1 ⟨rfl, hw⟩
        subst hw
        go_wp2
        go_ret
        exact ⟨by first | (simp; omega) | (simp; done) | (simp_all; done) | (simp_all; omega), B0⟩
      · have h5' : ¬ (n : Int) ≤ 380 := by omega
        go_enter Try.func51, Try.ntmps51
        go_wp2_with fail
        refine (i1 _).mono ?_
        rintro e w1 ⟨rfl, hw⟩
        subst hw
        go_wp2_with fail
        refine (i2 _).mono ?_
        rintro e w1 ⟨rfl, hw⟩
        subst hw
        go_wp2
        go_ret
        exact ⟨by first | (simp; omega) | (simp; done) | (simp_all; done) | (simp_all; omega), B0⟩
    · have e2 : (decide (0 ≤ seq) && decide (seq ≤ 1000000)) = false := by simp; omega
      rw [e2] at i2
      go_enter Try.func51, Try.ntmps51
      go_wp2_with fail
      refine (i1 _).mono ?_
      rintro e w1 ⟨rfl, hw⟩
      subst hw
      go_wp2_with fail
      refine (i2 _).mono ?_
      rintro e w1 ⟨rfl, hw⟩
      subst hw
      go_wp2
      go_ret
      exact ⟨by first | (simp; omega) | (simp; done) | (simp_all; done) | (simp_all; omega), B0⟩
  · have e1 : (decide (1 ≤ kind) && decide (kind ≤ 4)) = false := by simp; omega
    rw [e1] at i1
    go_enter Try.func51, Try.ntmps51
    go_wp2_with fail
    refine (i1 _).mono ?_
    rintro e w1 ⟨rfl, hw⟩
    subst hw
    go_wp2
    go_ret
    exact ⟨by first | (simp; omega) | (simp; done) | (simp_all; done) | (simp_all; omega), B0⟩
end

section
open Go.RowKit
set_option maxHeartbeats 800000 in
theorem implCrc_any (a : Option Addr) (n cap : Nat) (zs : List Int) (w : World) (hn : zs.length = n) (hs : n ≤ 4000000) (hr : Rd w a zs) (hb : Byt zs) :
    Calls Try.prog 97 #[.slice a n cap] w fun e w' => e = .returned (.int .i64 ((crcTo zs ^^^ 4294967295 : Nat) : Int)) ∧ w' = w := by
  by_cases h0 : n = 0
  · subst h0
    obtain rfl : zs = [] := List.length_eq_zero_iff.1 hn
    go_enter Try.func97, Try.ntmps97
    go_wp2
    refine wp_loop_rounds 1 ?_; rw [rounds_succ]
    go_wp2
    go_ret
    exact ⟨ret_int (last_in 4294967295 (by omega)), rfl⟩
  · obtain ⟨b, off, rfl, hlt, hc⟩ := hr.lt (by intro h; subst h; simp at hn; omega)
    clear hr
    have hn' : Hid (zs.length = n) := hn
    clear hn
    go_enter Try.func97, Try.ntmps97
    go_wp2
    go_loop [3, 9] (fun x i => ∃ k X : Nat, k ≤ n ∧ i = .int .i64 k ∧ x = .int .u32 X ∧ X < 4294967296 ∧ Hid (X = crcTo (zs.take k))) (fun _ i => n - (intOf i).toNat)
    case atStart => exact ⟨0, 4294967295, Nat.zero_le _, rfl, rfl, by omega, rfl⟩
    case round =>
      obtain ⟨k, X, hk, rfl, rfl, hX, hXe⟩ := hrel
      by_cases hkn : k < n
      · have hcx := hc k (by rw [hn'.out]; exact hkn)
        obtain ⟨Z, hZ, hZ1⟩ := byt_at hb k
        rw [hZ] at hcx
        have hZe : Hid (zs.getD k 0 = (Z : Int)) := hZ
        clear hZ
        have hX0 : X ^^^ Z < 4294967296 := xor_lt32 hX (by omega)
        go_wp2
        go_loop [3, 17] (fun x i => ∃ j y : Nat, j ≤ 8 ∧ i = .int .i64 j ∧ x = .int .u32 y ∧ y < 4294967296 ∧ Hid (y = rndN j (X ^^^ Z))) (fun _ i => 8 - (intOf i).toNat)
        case atStart => exact ⟨0, X ^^^ Z, Nat.zero_le _, rfl, val_int (u32_xor_nat _ _ hX (by omega)), hX0, rfl⟩
        case round =>
          obtain ⟨j, y, hj, rfl, rfl, hY, hYe⟩ := hrel
          by_cases hj8 : j < 8
          · by_cases ho : y % 2 = 1
            · have ht : (bits .and .u32 (y : Int) 1 == 1) = true := by rw [u32_and1 _ hY, ho]; rfl
              have ho' : Hid (y % 2 = 1) := ho
              clear ho
              go_wp2
              go_round
              case rel => exact ⟨j + 1, rnd y, by omega, by go_num, val_int (by rw [rnd_odd ho'.out]; exact half_in y hY), rnd_lt hY, rnd_step hYe.out⟩
              case measure => simp [intOf]; omega
            · have ht : (bits .and .u32 (y : Int) 1 == 1) = false := by
                rw [u32_and1 _ hY, beq_eq_false_iff_ne]; omega
              have ho' : Hid (¬ y % 2 = 1) := ho
              clear ho
              go_wp2
              go_round
              case rel => exact ⟨j + 1, rnd y, by omega, by go_num, val_int (by rw [rnd_even ho'.out]; rfl), rnd_lt hY, rnd_step hYe.out⟩
              case measure => simp [intOf]; omega
          · obtain rfl : j = 8 := by omega
            go_wp2
            go_round
            case rel => exact ⟨k + 1, y, by omega, by go_num, rfl, hY, by rw [← crc_round hn'.out hkn hXe.out hZe.out]; exact hYe⟩
            case measure => simp [intOf]; omega
      · go_wp2
        go_ret
        exact ⟨ret_int (by rw [last_in _ hX, hXe.out, List.take_of_length_le (by rw [hn'.out]; omega)]), rfl⟩
set_option maxHeartbeats 800000 in
theorem specCrc_any (a : Option Addr) (n cap : Nat) (zs : List Int) (w : World) (hn : zs.length = n) (hs : n ≤ 4000000) (hr : Rd w a zs) (hb : Byt zs) :
    Calls Try.prog 50 #[.slice a n cap] w fun e w' => e = .returned (.int .i64 ((crcTo zs ^^^ 4294967295 : Nat) : Int)) ∧ w' = w := by
  by_cases h0 : n = 0
  · subst h0
    obtain rfl : zs = [] := List.length_eq_zero_iff.1 hn
    go_enter Try.func50, Try.ntmps50
    go_wp2
    refine wp_loop_rounds 1 ?_; rw [rounds_succ]
    go_wp2
    go_ret
    exact ⟨ret_int (last_in64 4294967295 (by omega)), rfl⟩
  · obtain ⟨b, off, rfl, hlt, hc⟩ := hr.lt (by intro h; subst h; simp at hn; omega)
    clear hr
    have hn' : Hid (zs.length = n) := hn
    clear hn
    go_enter Try.func50, Try.ntmps50
    go_wp2
    go_loop [3, 4] (fun x i => ∃ k X : Nat, k ≤ n ∧ i = .int .i64 k ∧ x = .int .i64 X ∧ X < 4294967296 ∧ Hid (X = crcTo (zs.take k))) (fun _ i => n - (intOf i).toNat)
    case atStart => exact ⟨0, 4294967295, Nat.zero_le _, rfl, rfl, by omega, rfl⟩
    case round =>
      obtain ⟨k, X, hk, rfl, rfl, hX, hXe⟩ := hrel
      by_cases hkn : k < n
      · have hcx := hc k (by rw [hn'.out]; exact hkn)
        obtain ⟨Z, hZ, hZ1⟩ := byt_at hb k
        rw [hZ] at hcx
        have hZe : Hid (zs.getD k 0 = (Z : Int)) := hZ
        clear hZ
        have hX0 : X ^^^ Z < 4294967296 := xor_lt32 hX (by omega)
        go_wp2
        go_loop [3, 5] (fun x i => ∃ j y : Nat, j ≤ 8 ∧ i = .int .i64 j ∧ x = .int .i64 y ∧ y < 4294967296 ∧ Hid (y = rndN j (X ^^^ Z))) (fun _ i => 8 - (intOf i).toNat)
        case atStart => exact ⟨0, X ^^^ Z, Nat.zero_le _, rfl, val_int (i64_xor_nat _ _ (by omega) (by omega)), hX0, rfl⟩
        case round =>
          obtain ⟨j, y, hj, rfl, rfl, hY, hYe⟩ := hrel
          by_cases hj8 : j < 8
          · by_cases ho : y % 2 = 1
            · have ht : (bits .and .i64 (y : Int) 1 == 1) = true := by rw [i64_and1 _ hY, ho]; rfl
              have ho' : Hid (y % 2 = 1) := ho
              clear ho
              go_wp2
              go_round
              case rel => exact ⟨j + 1, rnd y, by omega, by go_num, val_int (by rw [rnd_odd ho'.out]; exact half_in64 y hY), rnd_lt hY, rnd_step hYe.out⟩
              case measure => simp [intOf]; omega
            · have ht : (bits .and .i64 (y : Int) 1 == 1) = false := by
                rw [i64_and1 _ hY, beq_eq_false_iff_ne]; omega
              have ho' : Hid (¬ y % 2 = 1) := ho
              clear ho
              go_wp2
              go_round
              case rel => exact ⟨j + 1, rnd y, by omega, by go_num, val_int (by rw [rnd_even ho'.out]; rfl), rnd_lt hY, rnd_step hYe.out⟩
              case measure => simp [intOf]; omega
          · obtain rfl : j = 8 := by omega
            go_wp2
            go_round
            case rel => exact ⟨k + 1, y, by omega, by go_num, rfl, hY, by rw [← crc_round hn'.out hkn hXe.out hZe.out]; exact hYe⟩
            case measure => simp [intOf]; omega
      · go_wp2
        go_ret
        exact ⟨ret_int (by rw [last_in64 _ hX, hXe.out, List.take_of_length_le (by rw [hn'.out]; omega)]), rfl⟩
end

section
open Go.RowKit
/-- The sum of bytes, and its four bytes, the highest first. -/
def sumOf (zs : List Int) : Int := ((crcTo zs ^^^ 4294967295 : Nat) : Int)
def sum4 (s : Int) : List Int := [s / 16777216, s / 65536 % 256, s / 256 % 256, s % 256]
/-- Bytes with their sum. -/
def summedOf (zs : List Int) : List Int := zs ++ sum4 (sumOf zs)
theorem sumOf_lt (zs : List Int) (hb : Byt zs) : 0 ≤ sumOf zs ∧ sumOf zs < 4294967296 := by
  have := xor_lt32 (crcTo_lt zs hb) (show 4294967295 < 4294967296 by omega)
  unfold sumOf
  omega
theorem sum4_byt {s : Int} (h : 0 ≤ s ∧ s < 4294967296) : Byt (sum4 s) := by
  intro z hz
  simp only [sum4, List.mem_cons, List.not_mem_nil, or_false] at hz
  omega
theorem summedOf_byt {zs : List Int} (hb : Byt zs) : Byt (summedOf zs) := by
  intro z hz
  rcases List.mem_append.1 hz with h | h
  · exact hb z h
  · exact sum4_byt (sumOf_lt zs hb) z h
theorem summedOf_len (zs : List Int) : (summedOf zs).length = zs.length + 4 := by simp [summedOf, sum4]
theorem four_news (w : World) (a b c d : Int) : ∀ j, j < 4 → (w.alloc (.cells #[.int .u8 a, .int .u8 b, .int .u8 c, .int .u8 d] 5)).cell? ((⟨w.heap.size, 0, none⟩ : Addr).add j) = some (.int .u8 (([a, b, c, d] : List Int).getD j 0)) := by
  intro j hj
  rw [add_at, (Blk.new w 5 #[.int .u8 a, .int .u8 b, .int .u8 c, .int .u8 d]).cell j]
  match j, hj with
  | 0, _ => rfl
  | 1, _ => rfl
  | 2, _ => rfl
  | 3, _ => rfl
set_option maxHeartbeats 1600000 in
theorem withSum_cut (b off n : Nat) (zs : List Int) (w : World) (hn : zs.length = n) (hs : n ≤ 4000000) (hb : Byt zs) (hr : Rd w (some ⟨b, off, none⟩) zs) :
    Calls Try.prog 81 #[.slice (some ⟨b, off, none⟩) n n] w fun e w' => ∃ a c, e = .returned (.slice a (n + 4) c) ∧ Rd w' a (summedOf zs) ∧ Below w.heap.size w w' := by
  have hc := implCrc_any (some ⟨b, off, none⟩) n n zs w hn hs hr hb
  have hlt := sumOf_lt zs hb
  have hS : Hid (summedOf zs = zs ++ sum4 (sumOf zs)) := rfl
  rw [show ((crcTo zs ^^^ 4294967295 : Nat) : Int) = sumOf zs from rfl] at hc
  have hn' : Hid (zs.length = n) := hn
  generalize sumOf zs = s at *
  generalize summedOf zs = Y at *
  obtain ⟨i0, hi, hz0, hz1, hz2⟩ := info_parts Try.info5
  have h8 : n + 4 ≤ maxLen := by unfold maxLen; omega
  clear hn
  go_enter Try.func81, Try.ntmps81
  go_wp2_with fail
  refine hc.mono ?_
  rintro e w1 ⟨rfl, hw⟩
  obtain rfl := hw.symm
  clear hc
  go_wp2_with (at_builtin; refine wpList_append_grows _ rfl (.tmp 6) (.tmp 18) 22 rfl 5 i0 (.int .u8 0) 1 1 Try.underlying22 hi hz0 hz1 hz2 rfl (by decide) (some ⟨b, off, none⟩) n n (zs.map (Value.int .u8)) rfl (by simp) (by simp [hn'.out]) (fun q hq j u hj => ?_) ⟨w.heap.size, 0, none⟩ 4 4 ((sum4 s).map (Value.int .u8)) rfl rfl (fun j u hj => ?_) (fun u hu => ?_) (by omega) h8 (by omega) ?_)
  · obtain rfl : (⟨b, off, none⟩ : Addr) = q := by simpa using hq
    have hr2 : Rd (w.alloc (.cells #[.int .u8 (s / 16777216), .int .u8 (s / 65536 % 256), .int .u8 (s / 256 % 256), .int .u8 (s % 256)] 5)) (some ⟨b, off, none⟩) zs := hr.keep ((Below.refl _ w).alloc (Nat.le_refl _) _)
    simp only [List.getElem?_map] at hj
    by_cases hjm : j < zs.length
    · have := hr2.news rfl j hjm
      rw [List.getElem?_eq_getElem hjm] at hj
      rw [this]
      simpa [List.getElem?_eq_getElem hjm] using hj
    · rw [List.getElem?_eq_none (by omega)] at hj
      simp at hj
  · have hf := four_news w (s / 16777216) (s / 65536 % 256) (s / 256 % 256) (s % 256)
    by_cases hj4 : j < 4
    · rw [hf j hj4]
      match j, hj4 with
      | 0, _ => simpa [sum4] using hj
      | 1, _ => simpa [sum4] using hj
      | 2, _ => simpa [sum4] using hj
      | 3, _ => simpa [sum4] using hj
    · rw [List.getElem?_eq_none (by simp [sum4]; omega)] at hj
      simp at hj
  · obtain ⟨z, _, rfl⟩ := List.mem_map.1 hu
    rfl
  · intro v' w' h1 h2
    have hv : OwnV 0 w' v' (n + 4) Y := by
      rw [hS.out]
      unfold OwnV
      rw [List.map_append]
      refine ⟨h1.1, ?_⟩
      rcases h1.2 with h | ⟨q, cap, cur, e1, _, e3, e4, e5⟩
      · exact .inl h
      · exact .inr ⟨q, cap, cur, e1, Nat.zero_le _, e3, e4, e5⟩
    obtain ⟨q, cq, rfl, _, hq⟩ := hv.some (by omega)
    go_wp2
    go_ret
    refine ⟨_, cq, rfl, hq.rd, ?_⟩
    have B0 : Below w.heap.size w (w.alloc (.cells #[.int .u8 (s / 16777216), .int .u8 (s / 65536 % 256), .int .u8 (s / 256 % 256), .int .u8 (s % 256)] 5)) := (Below.refl _ w).alloc (Nat.le_refl _) _
    exact B0.grown h2 B0.size (fun k hk => by cases hk)
theorem Rd.tk {w : World} {a : Option Addr} {zs : List Int} (h : Rd w a zs) (k : Nat) : Rd w a (zs.take k) := by
  rcases h with rfl | ⟨b, off, rfl, hc⟩
  · exact .inl (by simp)
  · refine .inr ⟨b, off, rfl, fun i hi => ?_⟩
    rw [List.length_take] at hi
    rw [hc i (by omega)]
    simp only [List.getD_eq_getElem?_getD, List.getElem?_take, if_pos (show i < k by omega)]
/-- Whether the sum at the end is that of what is ahead. -/
def sumB (zs : List Int) : Bool := decide (summedOf (zs.take (zs.length - 4)) = zs)
set_option maxHeartbeats 1600000 in
theorem summed_no (a : Option Addr) (n cap : Nat) (w : World) (h : n < 4) :
    Calls Try.prog 63 #[.slice a n cap] w fun e w' => e = .returned (.tuple #[.slice none 0 0, .bool false]) ∧ w' = w := by
  have h1 : ((n : Int) - 4) < 0 := by omega
  go_enter Try.func63, Try.ntmps63
  go_wp2
  refine bodyPost_ret (v := .tuple #[.slice none 0 0, .bool false]) (by simp [results, Try.f63, go_sem]) rfl ?_
  exact ⟨rfl, rfl⟩
set_option maxHeartbeats 1600000 in
theorem summed_yes (b off cap m : Nat) (zs : List Int) (w : World) (hn : zs.length = m + 4) (hs : m + 4 ≤ 1048576) (hcap : m + 4 ≤ cap) (hb : Byt zs) (hr : Rd w (some ⟨b, off, none⟩) zs) :
    Calls Try.prog 63 #[.slice (some ⟨b, off, none⟩) (m + 4) cap] w fun e w' => e = .returned (.tuple #[.slice (some ⟨b, off, none⟩) m m, .bool (sumB zs)]) ∧ Below w.heap.size w w' := by
  have h1 : ¬ (((m + 4 : Nat) : Int) - 4) < 0 := by omega
  have h2 : ((m + 4 : Nat) : Int) - 4 = (m : Int) := by omega
  have h3 : (m : Int) ≤ (cap : Int) := by omega
  have hlt : (zs.take m).length = m := by rw [List.length_take]; omega
  have hbt : Byt (zs.take m) := hb.take m
  have hrt : Rd w (some ⟨b, off, none⟩) (zs.take m) := hr.tk m
  have cW := withSum_cut b off m (zs.take m) w hlt (by omega) hbt hrt
  have hbS := summedOf_byt hbt
  have hlS : (summedOf (zs.take m)).length = m + 4 := by rw [summedOf_len, hlt]
  have hB : sumB zs = decide (summedOf (zs.take m) = zs) := by unfold sumB; rw [hn]; rfl
  rw [hB]
  clear hB
  generalize summedOf (zs.take m) = Y at *
  have hn' : Hid (zs.length = m + 4) := hn
  have hlS' : Hid (Y.length = m + 4) := hlS
  clear hn hlS hlt
  go_enter Try.func63, Try.ntmps63
  go_wp2_with fail
  refine cW.mono ?_
  rintro e w1 ⟨a1, c1, rfl, r1, b1⟩
  go_wp2_with fail
  refine (bytesEq_any a1 (some ⟨b, off, none⟩) (m + 4) (m + 4) c1 cap Y zs w1 hlS'.out hn'.out r1 (hr.keep b1) hbS hb).mono ?_
  rintro e w2 ⟨rfl, hw⟩
  obtain rfl := hw.symm
  go_wp2
  refine bodyPost_ret (v := .tuple #[.slice (some ⟨b, off, none⟩) m m, .bool (decide (Y = zs))]) (by simp [results, Try.f63, go_sem]) rfl ?_
  exact ⟨rfl, b1⟩
end
end Go.Proofs.Ytpejfkgbfdkdnaa
