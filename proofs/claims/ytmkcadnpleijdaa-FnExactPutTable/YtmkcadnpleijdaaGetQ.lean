/-
  Contracts for both GetNum functions.
-/
import Derived.Test.YtmkcadnpleijdaaCrcQ
namespace Go.Proofs.Ytmkcadnpleijdaa
open Go.RowKit
def gnGo (zs : List Int) (p : Nat) : Nat → Nat → Nat → (Nat × Nat × Bool)
  | 0, _, _ => (0, 0, false)
  | f + 1, k, acc =>
    if p + k < zs.length then
      if 128 ≤ (zs.getD (p + k) 0).toNat then gnGo zs p f (k + 1) (acc + (zs.getD (p + k) 0).toNat % 128 * 128 ^ k)
      else if (0 < k ∧ (zs.getD (p + k) 0).toNat = 0) ∨ 1000000 < acc + (zs.getD (p + k) 0).toNat % 128 * 128 ^ k then (0, 0, false)
      else (acc + (zs.getD (p + k) 0).toNat % 128 * 128 ^ k, p + k + 1, true)
    else (0, 0, false)
def gn (zs : List Int) (at' : Int) : Nat × Nat × Bool := if at' < 0 ∨ (zs.length : Int) ≤ at' then (0, 0, false) else gnGo zs at'.toNat 3 0 0
theorem gnGo_more {zs : List Int} {p f k acc Z : Nat} (h : p + k < zs.length) (hZ : zs.getD (p + k) 0 = (Z : Int)) (hc : 128 ≤ Z) : gnGo zs p (f + 1) k acc = gnGo zs p f (k + 1) (acc + Z % 128 * 128 ^ k) := by
  conv => lhs; unfold gnGo
  rw [if_pos h, hZ, Int.toNat_natCast, if_pos hc]
theorem gnGo_bad {zs : List Int} {p f k acc Z : Nat} (h : p + k < zs.length) (hZ : zs.getD (p + k) 0 = (Z : Int)) (hc : ¬ 128 ≤ Z) (hb : (0 < k ∧ Z = 0) ∨ 1000000 < acc + Z % 128 * 128 ^ k) : gnGo zs p (f + 1) k acc = (0, 0, false) := by
  unfold gnGo
  rw [if_pos h, hZ, Int.toNat_natCast, if_neg hc, if_pos hb]
theorem gnGo_good {zs : List Int} {p f k acc Z : Nat} (h : p + k < zs.length) (hZ : zs.getD (p + k) 0 = (Z : Int)) (hc : ¬ 128 ≤ Z) (hb : ¬ ((0 < k ∧ Z = 0) ∨ 1000000 < acc + Z % 128 * 128 ^ k)) : gnGo zs p (f + 1) k acc = (acc + Z % 128 * 128 ^ k, p + k + 1, true) := by
  unfold gnGo
  rw [if_pos h, hZ, Int.toNat_natCast, if_neg hc, if_neg hb]
theorem gnGo_end {zs : List Int} {p f k acc : Nat} (h : ¬ p + k < zs.length) : gnGo zs p f k acc = (0, 0, false) := by
  cases f with
  | zero => rfl
  | succ f => unfold gnGo; rw [if_neg h]
def gnVal (r : Nat × Nat × Bool) : Value := .tuple #[.int .i64 r.1, .int .i64 r.2.1, .bool r.2.2]
theorem ret_gn {x y : Int} {b : Bool} {r : Nat × Nat × Bool} (h1 : x = r.1) (h2 : y = r.2.1) (h3 : b = r.2.2) : Ending.returned (.tuple #[.int .i64 x, .int .i64 y, .bool b]) = .returned (gnVal r) := by
  rw [h1, h2, h3]; rfl
set_option maxRecDepth 100000 in
set_option maxHeartbeats 1600000 in
theorem implGetNum_any (a : Option Addr) (n cap : Nat) (zs : List Int) (at' : Int) (w : World) (hn : zs.length = n) (hs : n ≤ 4000000) (hcap : n ≤ cap) (hr : Rd w a zs) (hb : Byt zs) :
    Calls Try.prog 56 #[.slice a n cap, .int .i64 at'] w fun e w' => e = .returned (gnVal (gn zs at')) ∧ w' = w := by
  by_cases h0 : at' < 0
  · have hg : gn zs at' = (0, 0, false) := by unfold gn; rw [if_pos (.inl h0)]
    rw [hg]
    go_enter Try.func56, Try.ntmps56
    go_wp2
    go_ret3
    exact ⟨rfl, rfl⟩
  · by_cases h1 : (n : Int) ≤ at'
    · have hg : gn zs at' = (0, 0, false) := by unfold gn; rw [if_pos (.inr (by rw [hn]; exact h1))]
      rw [hg]
      go_enter Try.func56, Try.ntmps56
      go_wp2
      go_ret3
      exact ⟨rfl, rfl⟩
    · obtain ⟨p, rfl⟩ := Int.eq_ofNat_of_zero_le (show 0 ≤ at' by omega)
      have hg : Hid (gn zs (p : Int) = gnGo zs p 3 0 0) := by
        unfold Hid gn; rw [if_neg (by omega)]; simp
      have hp : p < n := by omega
      clear h0 h1
      obtain ⟨b, off, rfl, hlt, hc⟩ := hr.lt (by intro h; subst h; simp at hn; omega)
      have hn' : Hid (zs.length = n) := hn
      clear hn hr
      have hp1 : (p : Int) < (n : Int) := by omega
      have hp2 : (n : Int) ≤ (cap : Int) := by omega
      have hp0 : (0 : Int) ≤ (p : Int) := by omega
      by_cases hp3 : p + 3 ≤ n
      · have hp4 : (p : Int) + 3 ≤ (n : Int) := by omega
        go_enter Try.func56, Try.ntmps56
        go_wp2
        go_loop [7, 27] (fun x i => ∃ (acc : Nat) (q : Int), x = .int .i64 acc ∧ i = .int .i64 q ∧ ((q = 0 ∧ acc = 0 ∧ Hid (gn zs (p : Int) = gnGo zs p 3 0 acc)) ∨ (q = 1 ∧ acc < 128 ∧ Hid (gn zs (p : Int) = gnGo zs p 2 1 acc)) ∨ (q = 2 ∧ acc < 16384 ∧ Hid (gn zs (p : Int) = gnGo zs p 1 2 acc)) ∨ (q = 3 ∧ Hid (gn zs (p : Int) = gnGo zs p 0 3 acc)))) (fun _ i => 4 - (intOf i).toNat)
        case atStart => exact ⟨0, 0, rfl, rfl, .inl ⟨rfl, rfl, hg⟩⟩
        case round =>
          obtain ⟨acc, q, rfl, rfl, hq⟩ := hrel
          rcases hq with ⟨rfl, rfl, hG⟩ | ⟨rfl, hacc, hG⟩ | ⟨rfl, hacc, hG⟩ | ⟨rfl, hG⟩
          · have hlen : p + 0 < zs.length := by rw [hn'.out]; omega
            have hcx := hc (p + 0) hlen
            obtain ⟨Z, hZ, hZ1⟩ := byt_at hb (p + 0)
            rw [hZ] at hcx
            have hZe : Hid (zs.getD (p + 0) 0 = (Z : Int)) := hZ
            clear hZ
            rw [show off + (p + 0) = off + p from by omega] at hcx
            have HL : Hid (p + 0 < zs.length) := hlen
            clear hlen
            have e : 0 + Z % 128 * 128 ^ 0 = Z % 128 := by omega
            have he : Hid (0 + Z % 128 * 128 ^ 0 = Z % 128) := e
            clear e
            by_cases hZ2 : 128 ≤ Z
            · have HG : Hid (gn zs (p : Int) = gnGo zs p 2 1 (Z % 128)) := by
                have := gnGo_more (f := 2) (acc := 0) HL.out hZe.out hZ2
                rw [he.out] at this
                exact hG.out.trans this
              go_wp2
              go_round
              case rel => exact ⟨Z % 128, 1, by go_num, rfl, .inr (.inl ⟨rfl, by omega, HG⟩)⟩
              case measure => simp [intOf]
            · have HF : Hid (gn zs (p : Int) = (Z % 128, p + 0 + 1, true)) := by
                have := gnGo_good (f := 2) (acc := 0) HL.out hZe.out hZ2 (by rw [he.out]; omega)
                rw [he.out] at this
                exact hG.out.trans this
              go_wp2
              go_ret3
              exact ⟨ret_gn (by rw [HF.out]; simp) (by rw [HF.out]; simp) (by rw [HF.out]), rfl⟩
          · have hlen : p + 1 < zs.length := by rw [hn'.out]; omega
            have hcx := hc (p + 1) hlen
            obtain ⟨Z, hZ, hZ1⟩ := byt_at hb (p + 1)
            rw [hZ] at hcx
            have hZe : Hid (zs.getD (p + 1) 0 = (Z : Int)) := hZ
            clear hZ
            rw [show off + (p + 1) = off + p + 1 from by omega] at hcx
            have HL : Hid (p + 1 < zs.length) := hlen
            clear hlen
            have e : acc + Z % 128 * 128 ^ 1 = acc + Z % 128 * 128 := by omega
            have he : Hid (acc + Z % 128 * 128 ^ 1 = acc + Z % 128 * 128) := e
            clear e
            by_cases hZ2 : 128 ≤ Z
            · have HG : Hid (gn zs (p : Int) = gnGo zs p 1 2 (acc + Z % 128 * 128)) := by
                have := gnGo_more (f := 1) (acc := acc) HL.out hZe.out hZ2
                rw [he.out] at this
                exact hG.out.trans this
              go_wp2
              go_round
              case rel => exact ⟨acc + Z % 128 * 128, 2, by go_num, rfl, .inr (.inr (.inl ⟨rfl, by omega, HG⟩))⟩
              case measure => simp [intOf]
            · by_cases hz : Z = 0
              · have HF : Hid (gn zs (p : Int) = (0, 0, false)) := hG.out.trans (gnGo_bad (f := 1) (acc := acc) HL.out hZe.out hZ2 (.inl ⟨by omega, hz⟩))
                have hz' : ((Z : Int) == 0) = true := by simp [hz]
                clear hz
                go_wp2
                go_ret3
                exact ⟨ret_gn (by rw [HF.out]; rfl) (by rw [HF.out]; rfl) (by rw [HF.out]), rfl⟩
              · have hz' : ((Z : Int) == 0) = false := by simp [hz]
                by_cases ho : 1000000 < acc + Z % 128 * 128
                · omega
                · have HF : Hid (gn zs (p : Int) = (acc + Z % 128 * 128, p + 1 + 1, true)) := by
                    have := gnGo_good (f := 1) (acc := acc) HL.out hZe.out hZ2 (by rw [he.out]; omega)
                    rw [he.out] at this
                    exact hG.out.trans this
                  have ho' : ¬ (1000000 : Int) < (acc : Int) + (Z : Int) % 128 * 128 := by omega
                  go_wp2
                  go_ret3
                  exact ⟨ret_gn (by rw [HF.out]; simp) (by rw [HF.out]; simp) (by rw [HF.out]), rfl⟩
          · have hlen : p + 2 < zs.length := by rw [hn'.out]; omega
            have hcx := hc (p + 2) hlen
            obtain ⟨Z, hZ, hZ1⟩ := byt_at hb (p + 2)
            rw [hZ] at hcx
            have hZe : Hid (zs.getD (p + 2) 0 = (Z : Int)) := hZ
            clear hZ
            rw [show off + (p + 2) = off + p + 2 from by omega] at hcx
            have HL : Hid (p + 2 < zs.length) := hlen
            clear hlen
            have e : acc + Z % 128 * 128 ^ 2 = acc + Z % 128 * 16384 := by omega
            have he : Hid (acc + Z % 128 * 128 ^ 2 = acc + Z % 128 * 16384) := e
            clear e
            by_cases hZ2 : 128 ≤ Z
            · have HG : Hid (gn zs (p : Int) = gnGo zs p 0 3 (acc + Z % 128 * 16384)) := by
                have := gnGo_more (f := 0) (acc := acc) HL.out hZe.out hZ2
                rw [he.out] at this
                exact hG.out.trans this
              go_wp2
              go_round
              case rel => exact ⟨acc + Z % 128 * 16384, 3, by go_num, rfl, .inr (.inr (.inr ⟨rfl, HG⟩))⟩
              case measure => simp [intOf]
            · by_cases hz : Z = 0
              · have HF : Hid (gn zs (p : Int) = (0, 0, false)) := hG.out.trans (gnGo_bad (f := 0) (acc := acc) HL.out hZe.out hZ2 (.inl ⟨by omega, hz⟩))
                have hz' : ((Z : Int) == 0) = true := by simp [hz]
                clear hz
                go_wp2
                go_ret3
                exact ⟨ret_gn (by rw [HF.out]; rfl) (by rw [HF.out]; rfl) (by rw [HF.out]), rfl⟩
              · have hz' : ((Z : Int) == 0) = false := by simp [hz]
                by_cases ho : 1000000 < acc + Z % 128 * 16384
                · have HF : Hid (gn zs (p : Int) = (0, 0, false)) := hG.out.trans (gnGo_bad (f := 0) (acc := acc) HL.out hZe.out hZ2 (.inr (by rw [he.out]; exact ho)))
                  have ho' : (1000000 : Int) < (acc : Int) + (Z : Int) % 128 * 16384 := by omega
                  go_wp2
                  go_ret3
                  exact ⟨ret_gn (by rw [HF.out]; rfl) (by rw [HF.out]; rfl) (by rw [HF.out]), rfl⟩
                · have HF : Hid (gn zs (p : Int) = (acc + Z % 128 * 16384, p + 2 + 1, true)) := by
                    have := gnGo_good (f := 0) (acc := acc) HL.out hZe.out hZ2 (by rw [he.out]; omega)
                    rw [he.out] at this
                    exact hG.out.trans this
                  have ho' : ¬ (1000000 : Int) < (acc : Int) + (Z : Int) % 128 * 16384 := by omega
                  go_wp2
                  go_ret3
                  exact ⟨ret_gn (by rw [HF.out]; simp) (by rw [HF.out]; simp) (by rw [HF.out]), rfl⟩
          · go_wp2
            go_ret3
            exact ⟨ret_gn (by rw [hG.out]; rfl) (by rw [hG.out]; rfl) (by rw [hG.out]; rfl), rfl⟩
      · have hp4 : ¬ (p : Int) + 3 ≤ (n : Int) := by omega
        go_enter Try.func56, Try.ntmps56
        go_wp2
        go_loop [7, 27] (fun x i => ∃ (acc : Nat) (q : Int), x = .int .i64 acc ∧ i = .int .i64 q ∧ ((q = 0 ∧ acc = 0 ∧ Hid (gn zs (p : Int) = gnGo zs p 3 0 acc)) ∨ (q = 1 ∧ acc < 128 ∧ Hid (gn zs (p : Int) = gnGo zs p 2 1 acc)) ∨ (q = 2 ∧ acc < 16384 ∧ Hid (gn zs (p : Int) = gnGo zs p 1 2 acc)) ∨ (q = 3 ∧ Hid (gn zs (p : Int) = gnGo zs p 0 3 acc)))) (fun _ i => 4 - (intOf i).toNat)
        case atStart => exact ⟨0, 0, rfl, rfl, .inl ⟨rfl, rfl, hg⟩⟩
        case round =>
          obtain ⟨acc, q, rfl, rfl, hq⟩ := hrel
          rcases hq with ⟨rfl, rfl, hG⟩ | ⟨rfl, hacc, hG⟩ | ⟨rfl, hacc, hG⟩ | ⟨rfl, hG⟩
          · have hlen : p + 0 < zs.length := by rw [hn'.out]; omega
            have hcx := hc (p + 0) hlen
            obtain ⟨Z, hZ, hZ1⟩ := byt_at hb (p + 0)
            rw [hZ] at hcx
            have hZe : Hid (zs.getD (p + 0) 0 = (Z : Int)) := hZ
            clear hZ
            rw [show off + (p + 0) = off + p from by omega] at hcx
            have HL : Hid (p + 0 < zs.length) := hlen
            clear hlen
            have e : 0 + Z % 128 * 128 ^ 0 = Z % 128 := by omega
            have he : Hid (0 + Z % 128 * 128 ^ 0 = Z % 128) := e
            clear e
            by_cases hZ2 : 128 ≤ Z
            · have HG : Hid (gn zs (p : Int) = gnGo zs p 2 1 (Z % 128)) := by
                have := gnGo_more (f := 2) (acc := 0) HL.out hZe.out hZ2
                rw [he.out] at this
                exact hG.out.trans this
              go_wp2
              go_round
              case rel => exact ⟨Z % 128, 1, by go_num, rfl, .inr (.inl ⟨rfl, by omega, HG⟩)⟩
              case measure => simp [intOf]
            · have HF : Hid (gn zs (p : Int) = (Z % 128, p + 0 + 1, true)) := by
                have := gnGo_good (f := 2) (acc := 0) HL.out hZe.out hZ2 (by rw [he.out]; omega)
                rw [he.out] at this
                exact hG.out.trans this
              go_wp2
              go_ret3
              exact ⟨ret_gn (by rw [HF.out]; simp) (by rw [HF.out]; simp) (by rw [HF.out]), rfl⟩
          · by_cases hpq : p + 1 < n
            · have hpq1 : (p : Int) + 1 < (n : Int) := by omega
              have hlen : p + 1 < zs.length := by rw [hn'.out]; omega
              have hcx := hc (p + 1) hlen
              obtain ⟨Z, hZ, hZ1⟩ := byt_at hb (p + 1)
              rw [hZ] at hcx
              have hZe : Hid (zs.getD (p + 1) 0 = (Z : Int)) := hZ
              clear hZ
              rw [show off + (p + 1) = off + p + 1 from by omega] at hcx
              have HL : Hid (p + 1 < zs.length) := hlen
              clear hlen
              have e : acc + Z % 128 * 128 ^ 1 = acc + Z % 128 * 128 := by omega
              have he : Hid (acc + Z % 128 * 128 ^ 1 = acc + Z % 128 * 128) := e
              clear e
              by_cases hZ2 : 128 ≤ Z
              · have HG : Hid (gn zs (p : Int) = gnGo zs p 1 2 (acc + Z % 128 * 128)) := by
                  have := gnGo_more (f := 1) (acc := acc) HL.out hZe.out hZ2
                  rw [he.out] at this
                  exact hG.out.trans this
                go_wp2
                go_round
                case rel => exact ⟨acc + Z % 128 * 128, 2, by go_num, rfl, .inr (.inr (.inl ⟨rfl, by omega, HG⟩))⟩
                case measure => simp [intOf]
              · by_cases hz : Z = 0
                · have HF : Hid (gn zs (p : Int) = (0, 0, false)) := hG.out.trans (gnGo_bad (f := 1) (acc := acc) HL.out hZe.out hZ2 (.inl ⟨by omega, hz⟩))
                  have hz' : ((Z : Int) == 0) = true := by simp [hz]
                  clear hz
                  go_wp2
                  go_ret3
                  exact ⟨ret_gn (by rw [HF.out]; rfl) (by rw [HF.out]; rfl) (by rw [HF.out]), rfl⟩
                · have hz' : ((Z : Int) == 0) = false := by simp [hz]
                  by_cases ho : 1000000 < acc + Z % 128 * 128
                  · omega
                  · have HF : Hid (gn zs (p : Int) = (acc + Z % 128 * 128, p + 1 + 1, true)) := by
                      have := gnGo_good (f := 1) (acc := acc) HL.out hZe.out hZ2 (by rw [he.out]; omega)
                      rw [he.out] at this
                      exact hG.out.trans this
                    have ho' : ¬ (1000000 : Int) < (acc : Int) + (Z : Int) % 128 * 128 := by omega
                    go_wp2
                    go_ret3
                    exact ⟨ret_gn (by rw [HF.out]; simp) (by rw [HF.out]; simp) (by rw [HF.out]), rfl⟩
            · have HF : Hid (gn zs (p : Int) = (0, 0, false)) := hG.out.trans (gnGo_end (by rw [hn'.out]; exact hpq))
              have hpq1 : ¬ (p : Int) + 1 < (n : Int) := by omega
              go_wp2
              go_ret3
              exact ⟨ret_gn (by rw [HF.out]; rfl) (by rw [HF.out]; rfl) (by rw [HF.out]), rfl⟩
          · by_cases hpq : p + 2 < n
            · omega
            · have HF : Hid (gn zs (p : Int) = (0, 0, false)) := hG.out.trans (gnGo_end (by rw [hn'.out]; exact hpq))
              have hpq1 : ¬ (p : Int) + 2 < (n : Int) := by omega
              go_wp2
              go_ret3
              exact ⟨ret_gn (by rw [HF.out]; rfl) (by rw [HF.out]; rfl) (by rw [HF.out]), rfl⟩
          · go_wp2
            go_ret3
            exact ⟨ret_gn (by rw [hG.out]; rfl) (by rw [hG.out]; rfl) (by rw [hG.out]; rfl), rfl⟩
theorem and127 (Z : Nat) (h : Z ≤ 255) : bits .and .i64 (Z : Int) 127 = (Z : Int) % 128 := by
  have := i64_and_nat Z 127 (by omega) (by omega)
  rw [nat_mask7] at this
  simpa using this
theorem or_0 (Z : Nat) : bits .or .i64 0 ((Z : Int) % 128) = (Z : Int) % 128 := by
  have e : (Z : Int) % 128 = ((Z % 128 : Nat) : Int) := by omega
  have := i64_or_nat 0 (Z % 128) (by omega) (by omega)
  rw [e]
  simpa using this
theorem or_1 (acc Z : Nat) (h : acc < 128) : bits .or .i64 (acc : Int) ((Z : Int) % 128 * 128) = (acc : Int) + (Z : Int) % 128 * 128 := by
  have e : (Z : Int) % 128 * 128 = ((Z % 128 * 128 : Nat) : Int) := by omega
  rw [e, i64_or_nat _ _ (by omega) (by omega), Nat.or_comm, nat_join 7 _ _ (by omega) (by omega)]
  omega
theorem or_2 (acc Z : Nat) (h : acc < 16384) : bits .or .i64 (acc : Int) ((Z : Int) % 128 * 16384) = (acc : Int) + (Z : Int) % 128 * 16384 := by
  have e : (Z : Int) % 128 * 16384 = ((Z % 128 * 16384 : Nat) : Int) := by omega
  rw [e, i64_or_nat _ _ (by omega) (by omega), Nat.or_comm, nat_join 14 _ _ (by omega) (by omega)]
  omega
set_option maxRecDepth 100000 in
set_option maxHeartbeats 1600000 in
theorem specGetNum_any (a : Option Addr) (n cap : Nat) (zs : List Int) (at' : Int) (w : World) (hn : zs.length = n) (hs : n ≤ 4000000) (hr : Rd w a zs) (hb : Byt zs) :
    Calls Try.prog 61 #[.slice a n cap, .int .i64 at'] w fun e w' => e = .returned (gnVal (gn zs at')) ∧ w' = w := by
  by_cases h0 : at' < 0
  · have hg : gn zs at' = (0, 0, false) := by unfold gn; rw [if_pos (.inl h0)]
    rw [hg]
    have h0' : ¬ 0 ≤ at' := by omega
    go_enter Try.func61, Try.ntmps61
    go_wp2
    refine wp_loop_rounds 1 ?_; rw [rounds_succ]
    go_wp2
    go_ret3
    exact ⟨rfl, rfl⟩
  · by_cases h1 : (n : Int) ≤ at'
    · have hg : gn zs at' = (0, 0, false) := by unfold gn; rw [if_pos (.inr (by rw [hn]; exact h1))]
      rw [hg]
      have h1' : ¬ at' < (n : Int) := by omega
      have h0' : 0 ≤ at' := by omega
      go_enter Try.func61, Try.ntmps61
      go_wp2
      refine wp_loop_rounds 1 ?_; rw [rounds_succ]
      go_wp2
      go_ret3
      exact ⟨rfl, rfl⟩
    · obtain ⟨p, rfl⟩ := Int.eq_ofNat_of_zero_le (show 0 ≤ at' by omega)
      have hg : Hid (gn zs (p : Int) = gnGo zs p 3 0 0) := by
        unfold Hid gn; rw [if_neg (by omega)]; simp
      have hp : p < n := by omega
      clear h0 h1
      obtain ⟨b, off, rfl, hlt, hc⟩ := hr.lt (by intro h; subst h; simp at hn; omega)
      have hn' : Hid (zs.length = n) := hn
      clear hn hr
      have hp1 : (p : Int) < (n : Int) := by omega
      have hp0 : (0 : Int) ≤ (p : Int) := by omega
      go_enter Try.func61, Try.ntmps61
      go_wp2
      go_loop [7, 8] (fun x i => ∃ (acc : Nat) (q : Int), x = .int .i64 acc ∧ i = .int .i64 q ∧ ((q = 0 ∧ acc = 0 ∧ Hid (gn zs (p : Int) = gnGo zs p 3 0 acc)) ∨ (q = 1 ∧ acc < 128 ∧ Hid (gn zs (p : Int) = gnGo zs p 2 1 acc)) ∨ (q = 2 ∧ acc < 16384 ∧ Hid (gn zs (p : Int) = gnGo zs p 1 2 acc)) ∨ (q = 3 ∧ Hid (gn zs (p : Int) = gnGo zs p 0 3 acc)))) (fun _ i => 4 - (intOf i).toNat)
      case atStart => exact ⟨0, 0, rfl, rfl, .inl ⟨rfl, rfl, hg⟩⟩
      case round =>
        obtain ⟨acc, q, rfl, rfl, hq⟩ := hrel
        rcases hq with ⟨rfl, rfl, hG⟩ | ⟨rfl, hacc, hG⟩ | ⟨rfl, hacc, hG⟩ | ⟨rfl, hG⟩
        · have hlen : p + 0 < zs.length := by rw [hn'.out]; omega
          have hcx := hc (p + 0) hlen
          obtain ⟨Z, hZ, hZ1⟩ := byt_at hb (p + 0)
          rw [hZ] at hcx
          have hZe : Hid (zs.getD (p + 0) 0 = (Z : Int)) := hZ
          clear hZ
          rw [show off + (p + 0) = off + p from by omega] at hcx
          have HL : Hid (p + 0 < zs.length) := hlen
          clear hlen
          have e : 0 + Z % 128 * 128 ^ 0 = Z % 128 := by omega
          have he : Hid (0 + Z % 128 * 128 ^ 0 = Z % 128) := e
          clear e
          have ha := and127 Z hZ1
          have hor := or_0 Z
          by_cases hZ2 : 128 ≤ Z
          · have HG : Hid (gn zs (p : Int) = gnGo zs p 2 1 (Z % 128)) := by
              have := gnGo_more (f := 2) (acc := 0) HL.out hZe.out hZ2
              rw [he.out] at this
              exact hG.out.trans this
            go_wp2
            go_round
            case rel => exact ⟨Z % 128, 1, by go_num, rfl, .inr (.inl ⟨rfl, by omega, HG⟩)⟩
            case measure => simp [intOf]
          · have HF : Hid (gn zs (p : Int) = (Z % 128, p + 0 + 1, true)) := by
              have := gnGo_good (f := 2) (acc := 0) HL.out hZe.out hZ2 (by rw [he.out]; omega)
              rw [he.out] at this
              exact hG.out.trans this
            go_wp2
            go_ret3
            exact ⟨ret_gn (by rw [HF.out]; simp) (by rw [HF.out]; simp) (by rw [HF.out]), rfl⟩
        · by_cases hpq : p + 1 < n
          · have hpq1 : (p : Int) + 1 < (n : Int) := by omega
            have hlen : p + 1 < zs.length := by rw [hn'.out]; omega
            have hcx := hc (p + 1) hlen
            obtain ⟨Z, hZ, hZ1⟩ := byt_at hb (p + 1)
            rw [hZ] at hcx
            have hZe : Hid (zs.getD (p + 1) 0 = (Z : Int)) := hZ
            clear hZ
            rw [show off + (p + 1) = off + (p + 1) from by omega] at hcx
            have HL : Hid (p + 1 < zs.length) := hlen
            clear hlen
            have e : acc + Z % 128 * 128 ^ 1 = acc + Z % 128 * 128 := by omega
            have he : Hid (acc + Z % 128 * 128 ^ 1 = acc + Z % 128 * 128) := e
            clear e
            have ha := and127 Z hZ1
            have hor := or_1 acc Z hacc
            by_cases hZ2 : 128 ≤ Z
            · have HG : Hid (gn zs (p : Int) = gnGo zs p 1 2 (acc + Z % 128 * 128)) := by
                have := gnGo_more (f := 1) (acc := acc) HL.out hZe.out hZ2
                rw [he.out] at this
                exact hG.out.trans this
              go_wp2
              go_round
              case rel => exact ⟨acc + Z % 128 * 128, 2, by go_num, rfl, .inr (.inr (.inl ⟨rfl, by omega, HG⟩))⟩
              case measure => simp [intOf]
            · by_cases hz : Z = 0
              · have HF : Hid (gn zs (p : Int) = (0, 0, false)) := hG.out.trans (gnGo_bad (f := 1) (acc := acc) HL.out hZe.out hZ2 (.inl ⟨by omega, hz⟩))
                have hz' : ((Z : Int) == 0) = true := by simp [hz]
                clear hz
                go_wp2
                go_ret3
                exact ⟨ret_gn (by rw [HF.out]; rfl) (by rw [HF.out]; rfl) (by rw [HF.out]), rfl⟩
              · have hz' : ((Z : Int) == 0) = false := by simp [hz]
                by_cases ho : 1000000 < acc + Z % 128 * 128
                · omega
                · have HF : Hid (gn zs (p : Int) = (acc + Z % 128 * 128, p + 1 + 1, true)) := by
                    have := gnGo_good (f := 1) (acc := acc) HL.out hZe.out hZ2 (by rw [he.out]; omega)
                    rw [he.out] at this
                    exact hG.out.trans this
                  have ho' : ¬ (1000000 : Int) < (acc : Int) + (Z : Int) % 128 * 128 := by omega
                  go_wp2
                  go_ret3
                  exact ⟨ret_gn (by rw [HF.out]; simp) (by rw [HF.out]; simp) (by rw [HF.out]), rfl⟩
          · have HF : Hid (gn zs (p : Int) = (0, 0, false)) := hG.out.trans (gnGo_end (by rw [hn'.out]; exact hpq))
            have hpq1 : ¬ (p : Int) + 1 < (n : Int) := by omega
            go_wp2
            go_ret3
            exact ⟨ret_gn (by rw [HF.out]; rfl) (by rw [HF.out]; rfl) (by rw [HF.out]), rfl⟩
        · by_cases hpq : p + 2 < n
          · have hpq1 : (p : Int) + 2 < (n : Int) := by omega
            have hlen : p + 2 < zs.length := by rw [hn'.out]; omega
            have hcx := hc (p + 2) hlen
            obtain ⟨Z, hZ, hZ1⟩ := byt_at hb (p + 2)
            rw [hZ] at hcx
            have hZe : Hid (zs.getD (p + 2) 0 = (Z : Int)) := hZ
            clear hZ
            rw [show off + (p + 2) = off + (p + 2) from by omega] at hcx
            have HL : Hid (p + 2 < zs.length) := hlen
            clear hlen
            have e : acc + Z % 128 * 128 ^ 2 = acc + Z % 128 * 16384 := by omega
            have he : Hid (acc + Z % 128 * 128 ^ 2 = acc + Z % 128 * 16384) := e
            clear e
            have ha := and127 Z hZ1
            have hor := or_2 acc Z hacc
            by_cases hZ2 : 128 ≤ Z
            · have HG : Hid (gn zs (p : Int) = gnGo zs p 0 3 (acc + Z % 128 * 16384)) := by
                have := gnGo_more (f := 0) (acc := acc) HL.out hZe.out hZ2
                rw [he.out] at this
                exact hG.out.trans this
              go_wp2
              go_round
              case rel => exact ⟨acc + Z % 128 * 16384, 3, by go_num, rfl, .inr (.inr (.inr ⟨rfl, HG⟩))⟩
              case measure => simp [intOf]
            · by_cases hz : Z = 0
              · have HF : Hid (gn zs (p : Int) = (0, 0, false)) := hG.out.trans (gnGo_bad (f := 0) (acc := acc) HL.out hZe.out hZ2 (.inl ⟨by omega, hz⟩))
                have hz' : ((Z : Int) == 0) = true := by simp [hz]
                clear hz
                go_wp2
                go_ret3
                exact ⟨ret_gn (by rw [HF.out]; rfl) (by rw [HF.out]; rfl) (by rw [HF.out]), rfl⟩
              · have hz' : ((Z : Int) == 0) = false := by simp [hz]
                by_cases ho : 1000000 < acc + Z % 128 * 16384
                · have HF : Hid (gn zs (p : Int) = (0, 0, false)) := hG.out.trans (gnGo_bad (f := 0) (acc := acc) HL.out hZe.out hZ2 (.inr (by rw [he.out]; exact ho)))
                  have ho' : (1000000 : Int) < (acc : Int) + (Z : Int) % 128 * 16384 := by omega
                  go_wp2
                  go_ret3
                  exact ⟨ret_gn (by rw [HF.out]; rfl) (by rw [HF.out]; rfl) (by rw [HF.out]), rfl⟩
                · have HF : Hid (gn zs (p : Int) = (acc + Z % 128 * 16384, p + 2 + 1, true)) := by
                    have := gnGo_good (f := 0) (acc := acc) HL.out hZe.out hZ2 (by rw [he.out]; omega)
                    rw [he.out] at this
                    exact hG.out.trans this
                  have ho' : ¬ (1000000 : Int) < (acc : Int) + (Z : Int) % 128 * 16384 := by omega
                  go_wp2
                  go_ret3
                  exact ⟨ret_gn (by rw [HF.out]; simp) (by rw [HF.out]; simp) (by rw [HF.out]), rfl⟩
          · have HF : Hid (gn zs (p : Int) = (0, 0, false)) := hG.out.trans (gnGo_end (by rw [hn'.out]; exact hpq))
            have hpq1 : ¬ (p : Int) + 2 < (n : Int) := by omega
            go_wp2
            go_ret3
            exact ⟨ret_gn (by rw [HF.out]; rfl) (by rw [HF.out]; rfl) (by rw [HF.out]), rfl⟩
        · go_wp2
          go_ret3
          exact ⟨ret_gn (by rw [hG.out]; rfl) (by rw [hG.out]; rfl) (by rw [hG.out]; rfl), rfl⟩
end Go.Proofs.Ytmkcadnpleijdaa

