/-
  Joined: Base, Crc, Get, Put.
-/
import Derived.Test.YtoeeblmnogeonaaGreatDoorRows
import Derived.WalkKit
import Derived.WalkSpells
import Derived.WalkLawsBesides
import Derived.Deep.QuietTactic
import Derived.BigQuiet
import Derived.OpenShut
import Derived.Laws.BitsAllLaws
import Derived.Maps.AppendAt
import Derived.Lib.SliceRun
namespace Go.Proofs.YtoeeblmnogeonaaGreatDoor
section
open Go.RowKit
theorem Tryz.info5 : (Tryz.prog.info? 5).map (fun i => (i.zero, i.size, i.bytes)) = some (some (.int .u8 0), 1, 1) := by kernel_rfl
/-- The bytes zs can be read from the address a on. -/
def Rd (w : World) (a : Option Addr) (zs : List Int) : Prop :=
  zs = [] ∨ ∃ b off, a = some ⟨b, off, none⟩ ∧ ∀ i, i < zs.length → w.cell? ⟨b, off + i, none⟩ = some (.int .u8 (zs.getD i 0))
def Byt (zs : List Int) : Prop := ∀ z ∈ zs, 0 ≤ z ∧ z ≤ 255
/-- The block g is the call's own row, of whose cells the first are the bytes zs. -/
def Own (w : World) (g n cap : Nat) (zs : List Int) : Prop := w.ownsRow 0 5 1 (.slice (some ⟨g, 0, none⟩) n cap) n (zs.map (Value.int .u8))
theorem Rd.below {w w' : World} {B : Nat} {a : Option Addr} {zs : List Int} (h : Rd w a zs) (hb : Below B w w') (hB : ∀ b off, a = some ⟨b, off, none⟩ → b < B) : Rd w' a zs := by
  rcases h with h | ⟨b, off, rfl, hc⟩
  · exact .inl h
  · refine .inr ⟨b, off, rfl, fun i hi => ?_⟩
    rw [hb.cell (p := ⟨b, off + i, none⟩) (hB b off rfl)]
    exact hc i hi
theorem Rd.lt {w : World} {a : Option Addr} {zs : List Int} (h : Rd w a zs) (hz : zs ≠ []) : ∃ b off, a = some ⟨b, off, none⟩ ∧ b < w.heap.size ∧ ∀ i, i < zs.length → w.cell? ⟨b, off + i, none⟩ = some (.int .u8 (zs.getD i 0)) := by
  rcases h with h | ⟨b, off, rfl, hc⟩
  · exact absurd h hz
  · refine ⟨b, off, rfl, ?_, hc⟩
    have := hc 0 (List.length_pos_iff.2 hz)
    exact World.block_lt_of_cell? w _ this
theorem Rd.keep {w w' : World} {a : Option Addr} {zs : List Int} (h : Rd w a zs) (hb : Below w.heap.size w w') : Rd w' a zs := by
  by_cases hz : zs = []
  · exact .inl hz
  · obtain ⟨b, off, rfl, hlt, hc⟩ := h.lt hz
    refine .inr ⟨b, off, rfl, fun i hi => ?_⟩
    rw [hb.cell (p := ⟨b, off + i, none⟩) hlt]
    exact hc i hi
theorem Own.len {w : World} {g n cap : Nat} {zs : List Int} (h : Own w g n cap zs) : zs.length = n := by simpa using h.1
theorem Own.rd {w : World} {g n cap : Nat} {zs : List Int} (h : Own w g n cap zs) : Rd w (some ⟨g, 0, none⟩) zs := by
  refine .inr ⟨g, 0, rfl, fun i hi => ?_⟩
  have hn := h.len
  have := World.ownsRow.cellAt h i (by omega)
  rw [Nat.zero_add, this]
  simp [hi]
theorem Own.keep {w w' : World} {g n cap B : Nat} {zs : List Int} (h : Own w g n cap zs) (hb : Below B w w') (hg : g < B) : Own w' g n cap zs := by
  refine ⟨h.1, ?_⟩
  rcases h.2 with ⟨h', _⟩ | ⟨g', cap', cur, h', hb', hgg, rest⟩
  · simp at h'
  · refine .inr ⟨g', cap', cur, h', hb', ?_, rest⟩
    simp only [Value.slice.injEq, Option.some.injEq, Addr.mk.injEq, and_true, true_and] at h'
    obtain ⟨rfl, rfl⟩ := h'
    rw [hb.block g hg]; exact hgg
theorem Own.lt {w : World} {g n cap : Nat} {zs : List Int} (h : Own w g n cap zs) : g < w.heap.size := (World.ownsRow.lt h g rfl).2
/-- What the frame tells of a slice of bytes that came in, as Rd. -/
theorem rd_of_row {w : World} {a : Option Addr} {len cap : Nat} {zs : List Int}
    (h : (a = none ∧ len = 0 ∧ cap = 0 ∧ zs = []) ∨ ∃ x, a = some x ∧ len ≤ cap ∧ cap ≤ maxLen ∧ zs.length = cap ∧ (∀ i, i < zs.length → w.cell? (x.add i) = some (.int .u8 (zs.getD i 0))) ∧ ∀ n ∈ zs, (Lit.int .u8 n).wf = true) :
    ∃ ys, ys.length = len ∧ Rd w a ys ∧ Byt ys := by
  rcases h with ⟨rfl, rfl, rfl, rfl⟩ | ⟨x, rfl, hl, hm, hz, hcell, hwz⟩
  · exact ⟨[], rfl, .inl rfl, fun z hz => by simp at hz⟩
  · refine ⟨zs.take len, by simp; omega, ?_, fun z hz => ?_⟩
    · by_cases h0 : len = 0
      · subst h0; exact .inl (by simp)
      · obtain ⟨b, off, spot⟩ := x
        have hc := hcell 0 (by omega)
        have hspot : spot = none := by simpa [Addr.add] using World.cell?_spot hc
        subst hspot
        refine .inr ⟨b, off, rfl, fun i hi => ?_⟩
        simp only [List.length_take] at hi
        have := hcell i (by omega)
        have e : (⟨b, off, none⟩ : Addr).add i = ⟨b, off + i, none⟩ := by simp [Addr.add]
        rw [e] at this
        rw [this]
        have hi' : i < len := by omega
        simp [hi']
    · have h1 := hwz z (List.mem_of_mem_take hz)
      have := bounds_u8 h1
      omega
end

section
open Go.RowKit
/-- One round of the sum, on numbers. -/
def rnd (x : Nat) : Nat := if x % 2 = 1 then (x / 2) ^^^ 2197175160 else x / 2
def rndN : Nat → Nat → Nat
  | 0, x => x
  | k + 1, x => rnd (rndN k x)
def crcTo (zs : List Int) : Nat := zs.foldl (fun x c => rndN 8 (x ^^^ c.toNat)) 4294967295
theorem xor_lt32 {a b : Nat} (ha : a < 4294967296) (hb : b < 4294967296) : a ^^^ b < 4294967296 := Nat.xor_lt_two_pow (n := 32) ha hb
theorem rnd_lt {x : Nat} (h : x < 4294967296) : rnd x < 4294967296 := by
  unfold rnd
  split
  · exact xor_lt32 (by omega) (by omega)
  · omega
theorem rndN_lt {x : Nat} (h : x < 4294967296) (k : Nat) : rndN k x < 4294967296 := by
  induction k with
  | zero => exact h
  | succ k ih => exact rnd_lt ih
theorem rnd_odd {x : Nat} (h : x % 2 = 1) : rnd x = (x / 2) ^^^ 2197175160 := by unfold rnd; rw [if_pos h]
theorem rnd_even {x : Nat} (h : ¬ x % 2 = 1) : rnd x = x / 2 := by unfold rnd; rw [if_neg h]
theorem crcTo_snoc (zs : List Int) (k : Nat) (h : k < zs.length) : crcTo (zs.take (k + 1)) = rndN 8 (crcTo (zs.take k) ^^^ (zs.getD k 0).toNat) := by
  unfold crcTo
  rw [List.take_succ_eq_append_getElem h, List.foldl_append]
  simp [h]
theorem getD_byt {zs : List Int} (hb : Byt zs) (k : Nat) : 0 ≤ zs[k]?.getD 0 ∧ zs[k]?.getD 0 ≤ 255 := by
  by_cases h : k < zs.length
  · rw [List.getElem?_eq_getElem h]; exact hb _ (List.getElem_mem h)
  · rw [List.getElem?_eq_none (by omega)]; simp
theorem Byt.take {zs : List Int} (hb : Byt zs) (k : Nat) : Byt (zs.take k) := fun z hz => hb z (List.mem_of_mem_take hz)
theorem crcTo_lt (zs : List Int) (hb : Byt zs) : crcTo zs < 4294967296 := by
  unfold crcTo
  suffices H : ∀ (l : List Int) (x : Nat), Byt l → x < 4294967296 → l.foldl (fun x c => rndN 8 (x ^^^ c.toNat)) x < 4294967296 from H zs _ hb (by omega)
  intro l
  induction l with
  | nil => intro x _ hx; exact hx
  | cons c l ih =>
    intro x hl hx
    rw [List.foldl_cons]
    have hc := hl c (by simp)
    exact ih _ (fun z hz => hl z (by simp [hz])) (rndN_lt (xor_lt32 hx (by omega)) 8)
theorem u32_and1 (y : Nat) (h : y < 4294967296) : bits .and .u32 (y : Int) 1 = ((y % 2 : Nat) : Int) := by
  have := u32_and_nat y 1 h (by omega)
  rw [nat_mask1] at this
  exact this
theorem i64_nat (a : Nat) (ha : a < 9223372036854775808) : (BitVec.ofInt 64 (a : Int)).toNat = a := by
  rw [BitVec.ofInt_natCast, BitVec.toNat_ofNat]; exact Nat.mod_eq_of_lt (by omega)
theorem i64_xor_nat (a b : Nat) (ha : a < 9223372036854775808) (hb : b < 9223372036854775808) : bits .xor .i64 (a : Int) (b : Int) = ((a ^^^ b : Nat) : Int) := by
  have hx : a ^^^ b < 2 ^ 63 := Nat.xor_lt_two_pow (by omega) (by omega)
  show IntKind.i64.wrap ((BitVec.ofInt 64 (a : Int) ^^^ BitVec.ofInt 64 (b : Int)).toNat : Int) = _
  rw [BitVec.toNat_xor, i64_nat a ha, i64_nat b hb, IntKind.wrap_i64]
  omega
theorem i64_and_nat (a b : Nat) (ha : a < 9223372036854775808) (hb : b < 9223372036854775808) : bits .and .i64 (a : Int) (b : Int) = ((a &&& b : Nat) : Int) := by
  have hx : a &&& b < 2 ^ 63 := Nat.and_lt_two_pow _ (by omega)
  show IntKind.i64.wrap ((BitVec.ofInt 64 (a : Int) &&& BitVec.ofInt 64 (b : Int)).toNat : Int) = _
  rw [BitVec.toNat_and, i64_nat a ha, i64_nat b hb, IntKind.wrap_i64]
  omega
theorem i64_or_nat (a b : Nat) (ha : a < 9223372036854775808) (hb : b < 9223372036854775808) : bits .or .i64 (a : Int) (b : Int) = ((a ||| b : Nat) : Int) := by
  have hx : a ||| b < 2 ^ 63 := Nat.or_lt_two_pow (by omega) (by omega)
  show IntKind.i64.wrap ((BitVec.ofInt 64 (a : Int) ||| BitVec.ofInt 64 (b : Int)).toNat : Int) = _
  rw [BitVec.toNat_or, i64_nat a ha, i64_nat b hb, IntKind.wrap_i64]
  omega
theorem i64_and1 (y : Nat) (h : y < 4294967296) : bits .and .i64 (y : Int) 1 = ((y % 2 : Nat) : Int) := by
  have := i64_and_nat y 1 (by omega) (by omega)
  rw [nat_mask1] at this
  exact this
theorem ret_int {k : IntKind} {a b : Int} (h : a = b) : Ending.returned (.int k a) = .returned (.int k b) := by rw [h]
theorem val_int {k : IntKind} {a b : Int} (h : a = b) : Value.int k a = .int k b := by rw [h]
theorem byt_at {zs : List Int} (hb : Byt zs) (k : Nat) : ∃ Z : Nat, zs.getD k 0 = (Z : Int) ∧ Z ≤ 255 := by
  have := getD_byt hb k
  refine ⟨(zs.getD k 0).toNat, ?_, ?_⟩ <;> simp <;> omega
theorem half_in (y : Nat) (h : y < 4294967296) : bits .xor .u32 ((y : Int) / 2) 2197175160 = (((y / 2) ^^^ 2197175160 : Nat) : Int) := by
  have := u32_xor_nat (y / 2) 2197175160 (by omega) (by omega)
  rw [← this]; rfl
theorem half_in64 (y : Nat) (h : y < 4294967296) : bits .xor .i64 ((y : Int) / 2) 2197175160 = (((y / 2) ^^^ 2197175160 : Nat) : Int) := by
  have := i64_xor_nat (y / 2) 2197175160 (by omega) (by omega)
  rw [← this]; rfl
theorem last_in (x : Nat) (hx : x < 4294967296) : wrap64 (bits .xor .u32 IntKind.u32.max (x : Int)) = ((x ^^^ 4294967295 : Nat) : Int) := by
  have e : IntKind.u32.max = ((4294967295 : Nat) : Int) := by simp [IntKind.max, IntKind.bits, IntKind.signed]
  rw [e, u32_xor_nat _ _ (by omega) hx, Nat.xor_comm]
  have := xor_lt32 hx (show 4294967295 < 4294967296 by omega)
  exact IntWalk.wrap64_in _ (by omega)
theorem last_in64 (x : Nat) (hx : x < 4294967296) : bits .xor .i64 (x : Int) 4294967295 = ((x ^^^ 4294967295 : Nat) : Int) := i64_xor_nat x 4294967295 (by omega) (by omega)
theorem rnd_step {y x j : Nat} (h : y = rndN j x) : rnd y = rndN (j + 1) x := by rw [h]; rfl
theorem crc_round {zs : List Int} {n k X Z : Nat} (hn : zs.length = n) (hk : k < n) (hX : X = crcTo (zs.take k)) (hZ : zs.getD k 0 = (Z : Int)) : rndN 8 (X ^^^ Z) = crcTo (zs.take (k + 1)) := by
  rw [crcTo_snoc zs k (by omega), hZ, hX, Int.toNat_natCast]
end

section
open Go.RowKit
def gnGo (zs : List Int) (p : Nat) : Nat → Nat → Nat → (Nat × Nat × Bool)
  | 0, _, _ => (0, 0, false)
  | f + 1, k, acc =>
    if p + k < zs.length then
      if 128 ≤ (zs.getD (p + k) 0).toNat then gnGo zs p f (k + 1) (acc + (zs.getD (p + k) 0).toNat % 128 * 128 ^ k)
      else if (0 < k ∧ (zs.getD (p + k) 0).toNat = 0) ∨ 1000000 < acc + (zs.getD (p + k) 0).toNat % 128 * 128 ^ k then (0, 0, false)
      else (acc + (zs.getD (p + k) 0).toNat % 128 * 128 ^ k, p + k + 1, true)
    else (0, 0, false)
def gn (zs : List Int) (at' : Int) : Nat × Nat × Bool := if at' < 0 ∨ (zs.length : Int) ≤ at' then (0, 0, false) else gnGo zs at'.toNat 3 0 0
theorem gnGo_more {zs : List Int} {p f k acc Z : Nat} (h : p + k < zs.length) (hZ : zs.getD (p + k) 0 = (Z : Int)) (hc : 128 ≤ Z) : gnGo zs p (f + 1) k acc = gnGo zs p f (k + 1) (acc + Z % 128 * 128 ^ k) := by
  conv => lhs; unfold gnGo
  rw [if_pos h, hZ, Int.toNat_natCast, if_pos hc]
theorem gnGo_bad {zs : List Int} {p f k acc Z : Nat} (h : p + k < zs.length) (hZ : zs.getD (p + k) 0 = (Z : Int)) (hc : ¬ 128 ≤ Z) (hb : (0 < k ∧ Z = 0) ∨ 1000000 < acc + Z % 128 * 128 ^ k) : gnGo zs p (f + 1) k acc = (0, 0, false) := by
  unfold gnGo
  rw [if_pos h, hZ, Int.toNat_natCast, if_neg hc, if_pos hb]
theorem gnGo_good {zs : List Int} {p f k acc Z : Nat} (h : p + k < zs.length) (hZ : zs.getD (p + k) 0 = (Z : Int)) (hc : ¬ 128 ≤ Z) (hb : ¬ ((0 < k ∧ Z = 0) ∨ 1000000 < acc + Z % 128 * 128 ^ k)) : gnGo zs p (f + 1) k acc = (acc + Z % 128 * 128 ^ k, p + k + 1, true) := by
  unfold gnGo
  rw [if_pos h, hZ, Int.toNat_natCast, if_neg hc, if_neg hb]
theorem gnGo_end {zs : List Int} {p f k acc : Nat} (h : ¬ p + k < zs.length) : gnGo zs p f k acc = (0, 0, false) := by
  cases f with
  | zero => rfl
  | succ f => unfold gnGo; rw [if_neg h]
def gnVal (r : Nat × Nat × Bool) : Value := .tuple #[.int .i64 r.1, .int .i64 r.2.1, .bool r.2.2]
theorem ret_gn {x y : Int} {b : Bool} {r : Nat × Nat × Bool} (h1 : x = r.1) (h2 : y = r.2.1) (h3 : b = r.2.2) : Ending.returned (.tuple #[.int .i64 x, .int .i64 y, .bool b]) = .returned (gnVal r) := by
  rw [h1, h2, h3]; rfl
set_option maxRecDepth 100000 in
set_option maxHeartbeats 1600000 in
theorem implGetNum_any (a : Option Addr) (n cap : Nat) (zs : List Int) (at' : Int) (w : World) (hn : zs.length = n) (hs : n ≤ 4000000) (hcap : n ≤ cap) (hr : Rd w a zs) (hb : Byt zs) :
    Calls Tryz.prog 149 #[.slice a n cap, .int .i64 at'] w fun e w' => e = .returned (gnVal (gn zs at')) ∧ w' = w := by
  by_cases h0 : at' < 0
  · have hg : gn zs at' = (0, 0, false) := by unfold gn; rw [if_pos (.inl h0)]
    rw [hg]
    go_enter Tryz.func149, Tryz.ntmps149
    go_wp2
    go_ret3
    exact ⟨rfl, rfl⟩
  · by_cases h1 : (n : Int) ≤ at'
    · have hg : gn zs at' = (0, 0, false) := by unfold gn; rw [if_pos (.inr (by rw [hn]; exact h1))]
      rw [hg]
      go_enter Tryz.func149, Tryz.ntmps149
      go_wp2
      go_ret3
      exact ⟨rfl, rfl⟩
    · obtain ⟨p, rfl⟩ := Int.eq_ofNat_of_zero_le (show 0 ≤ at' by omega)
      have hg : Hid (gn zs (p : Int) = gnGo zs p 3 0 0) := by
        unfold Hid gn; rw [if_neg (by omega)]; simp
      have hp : p < n := by omega
      clear h0 h1
      obtain ⟨b, off, rfl, hlt, hc⟩ := hr.lt (by intro h; subst h; simp at hn; omega)
      have hn' : Hid (zs.length = n) := hn
      clear hn hr
      have hp1 : (p : Int) < (n : Int) := by omega
      have hp2 : (n : Int) ≤ (cap : Int) := by omega
      have hp0 : (0 : Int) ≤ (p : Int) := by omega
      by_cases hp3 : p + 3 ≤ n
      · have hp4 : (p : Int) + 3 ≤ (n : Int) := by omega
        go_enter Tryz.func149, Tryz.ntmps149
        go_wp2
        go_loop [7, 27] (fun x i => ∃ (acc : Nat) (q : Int), x = .int .i64 acc ∧ i = .int .i64 q ∧ ((q = 0 ∧ acc = 0 ∧ Hid (gn zs (p : Int) = gnGo zs p 3 0 acc)) ∨ (q = 1 ∧ acc < 128 ∧ Hid (gn zs (p : Int) = gnGo zs p 2 1 acc)) ∨ (q = 2 ∧ acc < 16384 ∧ Hid (gn zs (p : Int) = gnGo zs p 1 2 acc)) ∨ (q = 3 ∧ Hid (gn zs (p : Int) = gnGo zs p 0 3 acc)))) (fun _ i => 4 - (intOf i).toNat)
        case atStart => exact ⟨0, 0, rfl, rfl, .inl ⟨rfl, rfl, hg⟩⟩
        case round =>
          obtain ⟨acc, q, rfl, rfl, hq⟩ := hrel
          rcases hq with ⟨rfl, rfl, hG⟩ | ⟨rfl, hacc, hG⟩ | ⟨rfl, hacc, hG⟩ | ⟨rfl, hG⟩
          · have hlen : p + 0 < zs.length := by rw [hn'.out]; omega
            have hcx := hc (p + 0) hlen
            obtain ⟨Z, hZ, hZ1⟩ := byt_at hb (p + 0)
            rw [hZ] at hcx
            have hZe : Hid (zs.getD (p + 0) 0 = (Z : Int)) := hZ
            clear hZ
            rw [show off + (p + 0) = off + p from by omega] at hcx
            have HL : Hid (p + 0 < zs.length) := hlen
            clear hlen
            have e : 0 + Z % 128 * 128 ^ 0 = Z % 128 := by omega
            have he : Hid (0 + Z % 128 * 128 ^ 0 = Z % 128) := e
            clear e
            by_cases hZ2 : 128 ≤ Z
            · have HG : Hid (gn zs (p : Int) = gnGo zs p 2 1 (Z % 128)) := by
                have := gnGo_more (f := 2) (acc := 0) HL.out hZe.out hZ2
                rw [he.out] at this
                exact hG.out.trans this
              go_wp2
              go_round
              case rel => exact ⟨Z % 128, 1, by go_num, rfl, .inr (.inl ⟨rfl, by omega, HG⟩)⟩
              case measure => simp [intOf]
            · have HF : Hid (gn zs (p : Int) = (Z % 128, p + 0 + 1, true)) := by
                have := gnGo_good (f := 2) (acc := 0) HL.out hZe.out hZ2 (by rw [he.out]; omega)
                rw [he.out] at this
                exact hG.out.trans this
              go_wp2
              go_ret3
              exact ⟨ret_gn (by rw [HF.out]; simp) (by rw [HF.out]; simp) (by rw [HF.out]), rfl⟩
          · have hlen : p + 1 < zs.length := by rw [hn'.out]; omega
            have hcx := hc (p + 1) hlen
            obtain ⟨Z, hZ, hZ1⟩ := byt_at hb (p + 1)
            rw [hZ] at hcx
            have hZe : Hid (zs.getD (p + 1) 0 = (Z : Int)) := hZ
            clear hZ
            rw [show off + (p + 1) = off + p + 1 from by omega] at hcx
            have HL : Hid (p + 1 < zs.length) := hlen
            clear hlen
            have e : acc + Z % 128 * 128 ^ 1 = acc + Z % 128 * 128 := by omega
            have he : Hid (acc + Z % 128 * 128 ^ 1 = acc + Z % 128 * 128) := e
            clear e
            by_cases hZ2 : 128 ≤ Z
            · have HG : Hid (gn zs (p : Int) = gnGo zs p 1 2 (acc + Z % 128 * 128)) := by
                have := gnGo_more (f := 1) (acc := acc) HL.out hZe.out hZ2
                rw [he.out] at this
                exact hG.out.trans this
              go_wp2
              go_round
              case rel => exact ⟨acc + Z % 128 * 128, 2, by go_num, rfl, .inr (.inr (.inl ⟨rfl, by omega, HG⟩))⟩
              case measure => simp [intOf]
            · by_cases hz : Z = 0
              · have HF : Hid (gn zs (p : Int) = (0, 0, false)) := hG.out.trans (gnGo_bad (f := 1) (acc := acc) HL.out hZe.out hZ2 (.inl ⟨by omega, hz⟩))
                have hz' : ((Z : Int) == 0) = true := by simp [hz]
                clear hz
                go_wp2
                go_ret3
                exact ⟨ret_gn (by rw [HF.out]; rfl) (by rw [HF.out]; rfl) (by rw [HF.out]), rfl⟩
              · have hz' : ((Z : Int) == 0) = false := by simp [hz]
                by_cases ho : 1000000 < acc + Z % 128 * 128
                · omega
                · have HF : Hid (gn zs (p : Int) = (acc + Z % 128 * 128, p + 1 + 1, true)) := by
                    have := gnGo_good (f := 1) (acc := acc) HL.out hZe.out hZ2 (by rw [he.out]; omega)
                    rw [he.out] at this
                    exact hG.out.trans this
                  have ho' : ¬ (1000000 : Int) < (acc : Int) + (Z : Int) % 128 * 128 := by omega
                  go_wp2
                  go_ret3
                  exact ⟨ret_gn (by rw [HF.out]; simp) (by rw [HF.out]; simp) (by rw [HF.out]), rfl⟩
          · have hlen : p + 2 < zs.length := by rw [hn'.out]; omega
            have hcx := hc (p + 2) hlen
            obtain ⟨Z, hZ, hZ1⟩ := byt_at hb (p + 2)
            rw [hZ] at hcx
            have hZe : Hid (zs.getD (p + 2) 0 = (Z : Int)) := hZ
            clear hZ
            rw [show off + (p + 2) = off + p + 2 from by omega] at hcx
            have HL : Hid (p + 2 < zs.length) := hlen
            clear hlen
            have e : acc + Z % 128 * 128 ^ 2 = acc + Z % 128 * 16384 := by omega
            have he : Hid (acc + Z % 128 * 128 ^ 2 = acc + Z % 128 * 16384) := e
            clear e
            by_cases hZ2 : 128 ≤ Z
            · have HG : Hid (gn zs (p : Int) = gnGo zs p 0 3 (acc + Z % 128 * 16384)) := by
                have := gnGo_more (f := 0) (acc := acc) HL.out hZe.out hZ2
                rw [he.out] at this
                exact hG.out.trans this
              go_wp2
              go_round
              case rel => exact ⟨acc + Z % 128 * 16384, 3, by go_num, rfl, .inr (.inr (.inr ⟨rfl, HG⟩))⟩
              case measure => simp [intOf]
            · by_cases hz : Z = 0
              · have HF : Hid (gn zs (p : Int) = (0, 0, false)) := hG.out.trans (gnGo_bad (f := 0) (acc := acc) HL.out hZe.out hZ2 (.inl ⟨by omega, hz⟩))
                have hz' : ((Z : Int) == 0) = true := by simp [hz]
                clear hz
                go_wp2
                go_ret3
                exact ⟨ret_gn (by rw [HF.out]; rfl) (by rw [HF.out]; rfl) (by rw [HF.out]), rfl⟩
              · have hz' : ((Z : Int) == 0) = false := by simp [hz]
                by_cases ho : 1000000 < acc + Z % 128 * 16384
                · have HF : Hid (gn zs (p : Int) = (0, 0, false)) := hG.out.trans (gnGo_bad (f := 0) (acc := acc) HL.out hZe.out hZ2 (.inr (by rw [he.out]; exact ho)))
                  have ho' : (1000000 : Int) < (acc : Int) + (Z : Int) % 128 * 16384 := by omega
                  go_wp2
                  go_ret3
                  exact ⟨ret_gn (by rw [HF.out]; rfl) (by rw [HF.out]; rfl) (by rw [HF.out]), rfl⟩
                · have HF : Hid (gn zs (p : Int) = (acc + Z % 128 * 16384, p + 2 + 1, true)) := by
                    have := gnGo_good (f := 0) (acc := acc) HL.out hZe.out hZ2 (by rw [he.out]; omega)
                    rw [he.out] at this
                    exact hG.out.trans this
                  have ho' : ¬ (1000000 : Int) < (acc : Int) + (Z : Int) % 128 * 16384 := by omega
                  go_wp2
                  go_ret3
                  exact ⟨ret_gn (by rw [HF.out]; simp) (by rw [HF.out]; simp) (by rw [HF.out]), rfl⟩
          · go_wp2
            go_ret3
            exact ⟨ret_gn (by rw [hG.out]; rfl) (by rw [hG.out]; rfl) (by rw [hG.out]; rfl), rfl⟩
      · have hp4 : ¬ (p : Int) + 3 ≤ (n : Int) := by omega
        go_enter Tryz.func149, Tryz.ntmps149
        go_wp2
        go_loop [7, 27] (fun x i => ∃ (acc : Nat) (q : Int), x = .int .i64 acc ∧ i = .int .i64 q ∧ ((q = 0 ∧ acc = 0 ∧ Hid (gn zs (p : Int) = gnGo zs p 3 0 acc)) ∨ (q = 1 ∧ acc < 128 ∧ Hid (gn zs (p : Int) = gnGo zs p 2 1 acc)) ∨ (q = 2 ∧ acc < 16384 ∧ Hid (gn zs (p : Int) = gnGo zs p 1 2 acc)) ∨ (q = 3 ∧ Hid (gn zs (p : Int) = gnGo zs p 0 3 acc)))) (fun _ i => 4 - (intOf i).toNat)
        case atStart => exact ⟨0, 0, rfl, rfl, .inl ⟨rfl, rfl, hg⟩⟩
        case round =>
          obtain ⟨acc, q, rfl, rfl, hq⟩ := hrel
          rcases hq with ⟨rfl, rfl, hG⟩ | ⟨rfl, hacc, hG⟩ | ⟨rfl, hacc, hG⟩ | ⟨rfl, hG⟩
          · have hlen : p + 0 < zs.length := by rw [hn'.out]; omega
            have hcx := hc (p + 0) hlen
            obtain ⟨Z, hZ, hZ1⟩ := byt_at hb (p + 0)
            rw [hZ] at hcx
            have hZe : Hid (zs.getD (p + 0) 0 = (Z : Int)) := hZ
            clear hZ
            rw [show off + (p + 0) = off + p from by omega] at hcx
            have HL : Hid (p + 0 < zs.length) := hlen
            clear hlen
            have e : 0 + Z % 128 * 128 ^ 0 = Z % 128 := by omega
            have he : Hid (0 + Z % 128 * 128 ^ 0 = Z % 128) := e
            clear e
            by_cases hZ2 : 128 ≤ Z
            · have HG : Hid (gn zs (p : Int) = gnGo zs p 2 1 (Z % 128)) := by
                have := gnGo_more (f := 2) (acc := 0) HL.out hZe.out hZ2
                rw [he.out] at this
                exact hG.out.trans this
              go_wp2
              go_round
              case rel => exact ⟨Z % 128, 1, by go_num, rfl, .inr (.inl ⟨rfl, by omega, HG⟩)⟩
              case measure => simp [intOf]
            · have HF : Hid (gn zs (p : Int) = (Z % 128, p + 0 + 1, true)) := by
                have := gnGo_good (f := 2) (acc := 0) HL.out hZe.out hZ2 (by rw [he.out]; omega)
                rw [he.out] at this
                exact hG.out.trans this
              go_wp2
              go_ret3
              exact ⟨ret_gn (by rw [HF.out]; simp) (by rw [HF.out]; simp) (by rw [HF.out]), rfl⟩
          · by_cases hpq : p + 1 < n
            · have hpq1 : (p : Int) + 1 < (n : Int) := by omega
              have hlen : p + 1 < zs.length := by rw [hn'.out]; omega
              have hcx := hc (p + 1) hlen
              obtain ⟨Z, hZ, hZ1⟩ := byt_at hb (p + 1)
              rw [hZ] at hcx
              have hZe : Hid (zs.getD (p + 1) 0 = (Z : Int)) := hZ
              clear hZ
              rw [show off + (p + 1) = off + p + 1 from by omega] at hcx
              have HL : Hid (p + 1 < zs.length) := hlen
              clear hlen
              have e : acc + Z % 128 * 128 ^ 1 = acc + Z % 128 * 128 := by omega
              have he : Hid (acc + Z % 128 * 128 ^ 1 = acc + Z % 128 * 128) := e
              clear e
              by_cases hZ2 : 128 ≤ Z
              · have HG : Hid (gn zs (p : Int) = gnGo zs p 1 2 (acc + Z % 128 * 128)) := by
                  have := gnGo_more (f := 1) (acc := acc) HL.out hZe.out hZ2
                  rw [he.out] at this
                  exact hG.out.trans this
                go_wp2
                go_round
                case rel => exact ⟨acc + Z % 128 * 128, 2, by go_num, rfl, .inr (.inr (.inl ⟨rfl, by omega, HG⟩))⟩
                case measure => simp [intOf]
              · by_cases hz : Z = 0
                · have HF : Hid (gn zs (p : Int) = (0, 0, false)) := hG.out.trans (gnGo_bad (f := 1) (acc := acc) HL.out hZe.out hZ2 (.inl ⟨by omega, hz⟩))
                  have hz' : ((Z : Int) == 0) = true := by simp [hz]
                  clear hz
                  go_wp2
                  go_ret3
                  exact ⟨ret_gn (by rw [HF.out]; rfl) (by rw [HF.out]; rfl) (by rw [HF.out]), rfl⟩
                · have hz' : ((Z : Int) == 0) = false := by simp [hz]
                  by_cases ho : 1000000 < acc + Z % 128 * 128
                  · omega
                  · have HF : Hid (gn zs (p : Int) = (acc + Z % 128 * 128, p + 1 + 1, true)) := by
                      have := gnGo_good (f := 1) (acc := acc) HL.out hZe.out hZ2 (by rw [he.out]; omega)
                      rw [he.out] at this
                      exact hG.out.trans this
                    have ho' : ¬ (1000000 : Int) < (acc : Int) + (Z : Int) % 128 * 128 := by omega
                    go_wp2
                    go_ret3
                    exact ⟨ret_gn (by rw [HF.out]; simp) (by rw [HF.out]; simp) (by rw [HF.out]), rfl⟩
            · have HF : Hid (gn zs (p : Int) = (0, 0, false)) := hG.out.trans (gnGo_end (by rw [hn'.out]; exact hpq))
              have hpq1 : ¬ (p : Int) + 1 < (n : Int) := by omega
              go_wp2
              go_ret3
              exact ⟨ret_gn (by rw [HF.out]; rfl) (by rw [HF.out]; rfl) (by rw [HF.out]), rfl⟩
          · by_cases hpq : p + 2 < n
            · omega
            · have HF : Hid (gn zs (p : Int) = (0, 0, false)) := hG.out.trans (gnGo_end (by rw [hn'.out]; exact hpq))
              have hpq1 : ¬ (p : Int) + 2 < (n : Int) := by omega
              go_wp2
              go_ret3
              exact ⟨ret_gn (by rw [HF.out]; rfl) (by rw [HF.out]; rfl) (by rw [HF.out]), rfl⟩
          · go_wp2
            go_ret3
            exact ⟨ret_gn (by rw [hG.out]; rfl) (by rw [hG.out]; rfl) (by rw [hG.out]; rfl), rfl⟩
end

section
open Go.RowKit
/-- An append onto a row of the call's own, the new slice written out. -/
theorem wpList_app (w : World) {ops : Array Oper} {rest : List Oper} {o : Oper} {a : Act} {Q : Exit → Act → World → Prop} (hgd : o.guard = none) (s x : Operand)
    (ho : o.op = .call { callee := .builtin .append, args := #[s, x], argTypes := #[22, 22] })
    (g n c : Nat) (zs : List Int) (hs : a.eval s = .slice (some ⟨g, 0, none⟩) n c) (hown : Own w g n c zs)
    (ad : Addr) (m c' : Nat) (ys : List Int) (hx : a.eval x = .slice (some ad) m c') (hl : ys.length = m)
    (hnews : ∀ j, j < m → w.cell? (ad.add j) = some (.int .u8 (ys.getD j 0))) (hb : n + m ≤ 8000000) (H : Nat) (hH : w.heap.size = H)
    (h : ∀ g' cap' w', Own w' g' (n + m) cap' (zs ++ ys) → w.grownBy w' (some g) → (g' = g ∨ g' = H) → wpList Tryz.prog ops Q rest (a.put o.dst (.slice (some ⟨g', 0, none⟩) (n + m) cap')) w') :
    wpList Tryz.prog ops Q (o :: rest) a w := by
  obtain ⟨i0, hi, hz0, hz1, hz2⟩ := info_parts Tryz.info5
  refine wpList_append_own_at w hgd s x 22 ho 0 5 i0 (.int .u8 0) 1 1 Tryz.underlying22 hi hz0 hz1 hz2 rfl (by decide) _ n (zs.map (Value.int .u8)) hs hown ad m c' (ys.map (Value.int .u8)) hx (by simp [hl]) ?_ ?_ (by unfold maxLen; omega) (by omega) (Nat.zero_le _) ?_
  · intro j u hj
    simp only [List.getElem?_map] at hj
    by_cases hjm : j < m
    · rw [hnews j hjm]
      rw [List.getElem?_eq_getElem (by omega)] at hj
      simpa [List.getElem?_eq_getElem (show j < ys.length by omega)] using hj
    · rw [List.getElem?_eq_none (by omega)] at hj
      simp at hj
  · intro u hu
    simp only [List.mem_map] at hu
    obtain ⟨z, _, rfl⟩ := hu
    rfl
  · intro v' w' h1 h2 h3 h4
    have h1' := h1
    rcases h1.2 with ⟨e, _⟩ | ⟨g', cap', cur, e, _⟩
    · exact absurd (h3.1 e).1 (by simp)
    · subst e
      refine h g' cap' w' ?_ h2 ?_
      · unfold Own; rw [List.map_append]; exact h1'
      · rcases h4 with h4 | h4
        · left; simpa [Value.ownBlock] using h4
        · right; rw [← hH]; simpa [Value.ownBlock] using h4
theorem own_empty (w : World) : Own (w.alloc (.cells #[] 5)) w.heap.size 0 0 [] := by
  exact World.ownsRow_made (base := 0) (e := 5) (size := 1) w #[] 0 (Nat.zero_le _) (by unfold maxLen; omega) rfl
theorem Rd.news {w : World} {ad : Addr} {zs : List Int} {m : Nat} (h : Rd w (some ad) zs) (hl : zs.length = m) : ∀ j, j < m → w.cell? (ad.add j) = some (.int .u8 (zs.getD j 0)) := by
  intro j hj
  rcases h with h | ⟨b, off, e, hc⟩
  · subst h; simp at hl; omega
  · obtain rfl : ad = ⟨b, off, none⟩ := by simpa using e
    have e' : (⟨b, off, none⟩ : Addr).add j = ⟨b, off + j, none⟩ := by simp [Addr.add]
    rw [e']; exact hc j (by omega)
/-- The groups of a number, fuel f. -/
def encGo : Nat → Nat → List Int
  | 0, m => [(m : Int)]
  | f + 1, m => if 128 ≤ m then ((m % 128 + 128 : Nat) : Int) :: encGo f (m / 128) else [(m : Int)]
def clamp (x : Int) : Nat := (min (max x 0) 1000000).toNat
def enc (x : Int) : List Int := encGo 3 (clamp x)
theorem encGo_more {f m : Nat} (h : 128 ≤ m) : encGo (f + 1) m = ((m % 128 + 128 : Nat) : Int) :: encGo f (m / 128) := by
  conv => lhs; unfold encGo
  rw [if_pos h]
theorem encGo_last {f m : Nat} (h : ¬ 128 ≤ m) : encGo f m = [(m : Int)] := by
  cases f with
  | zero => rfl
  | succ f => unfold encGo; rw [if_neg h]
theorem clamp_le (x : Int) : clamp x ≤ 1000000 := by unfold clamp; omega
theorem one_news (w : World) (z : Int) : ∀ j, j < 1 → (w.alloc (.cells #[.int .u8 z] 5)).cell? ((⟨w.heap.size, 0, none⟩ : Addr).add j) = some (.int .u8 ([z].getD j 0)) := by
  intro j hj
  obtain rfl : j = 0 := by omega
  exact cell_one_new w (.int .u8 z) 5 0 _ rfl
theorem enc_step {zs es acc : List Int} {f m : Nat} (h : zs ++ es = acc ++ encGo (f + 1) m) (hm : 128 ≤ m) : zs ++ es = (acc ++ [(m : Int) % 128 + 128]) ++ encGo f (m / 128) := by
  rw [h, encGo_more hm, List.append_assoc]
  have e : ((m % 128 + 128 : Nat) : Int) = (m : Int) % 128 + 128 := by omega
  rw [e]; rfl
/-- What both PutNum functions answer: a new row, of the bytes and behind them the number's groups. -/
def PutPost (w : World) (n : Nat) (ys : List Int) (e : Ending) (w' : World) : Prop :=
  ∃ g c, e = .returned (.slice (some ⟨g, 0, none⟩) n c) ∧ w.heap.size ≤ g ∧ Own w' g n c ys ∧ Below w.heap.size w w'
theorem and127_or (m : Nat) (h : m ≤ 1000000) : bits .or .i64 (bits .and .i64 (m : Int) 127) 128 = (m : Int) % 128 + 128 := by
  have e1 := i64_and_nat m 127 (by omega) (by omega)
  rw [nat_mask7] at e1
  have e2 := i64_or_nat (m % 128) 128 (by omega) (by omega)
  rw [Nat.or_comm, nat_join 7 128 _ (by omega) (by omega)] at e2
  have e3 : bits .and .i64 (m : Int) 127 = ((m % 128 : Nat) : Int) := e1
  rw [e3]
  have e4 : bits .or .i64 ((m % 128 : Nat) : Int) 128 = ((128 + m % 128 : Nat) : Int) := e2
  rw [e4]; omega
set_option maxRecDepth 100000 in
set_option maxHeartbeats 800000 in
theorem specPutNum_any (ad : Addr) (n cap : Nat) (zs : List Int) (x : Int) (w : World) (hn : zs.length = n) (hs : n ≤ 3000000) (hr : Rd w (some ad) zs) :
    Calls Tryz.prog 135 #[.slice (some ad) n cap, .int .i64 x] w (PutPost w (n + (enc x).length) (zs ++ enc x)) := by
  have hb0 := (Below.refl w.heap.size w).alloc (Nat.le_refl _) (.cells #[] 5)
  have hr2 := hr.keep hb0
  have hn' : Hid (zs.length = n) := hn
  clear hn hr
  rcases (show x < 0 ∨ (0 ≤ x ∧ x ≤ 1000000) ∨ 1000000 < x by omega) with hx | ⟨hx, hx1⟩ | hx
  all_goals
    go_enter Tryz.func135, Tryz.ntmps135
    go_wp2_with (at_builtin; refine wpList_app _ rfl (.tmp 6) (.tmp 7) rfl w.heap.size 0 0 [] rfl (own_empty w) ad n cap zs rfl hn'.out (hr2.news hn'.out) (by omega) (w.heap.size + 1) (by simp) ?_; intro g0 c0 w0 hown0 hgrow0 hat0)
    have hB0 : Below w.heap.size w w0 := hb0.trans ((Below.refl _ _).grown hgrow0 (by simp) (by intro k hk; simp at hk; omega))
    have hg0 : w.heap.size ≤ g0 := by omega
    clear hgrow0 hat0 hb0 hr2
    simp only [Nat.zero_add, List.nil_append] at hown0
    go_loopw [5, 1] (fun v i wr => ∃ (g' c' m f : Nat) (acc : List Int), v = .slice (some ⟨g', 0, none⟩) acc.length c' ∧ i = .int .i64 m ∧ m ≤ 1000000 ∧ Own wr g' acc.length c' acc ∧ Below w.heap.size w wr ∧ w.heap.size ≤ g' ∧ m < 128 ^ (f + 1) ∧ acc.length + f ≤ n + 3 ∧ Hid (zs ++ enc x = acc ++ encGo f m)) (fun _ i _ => (intOf i).toNat)
    case atStart => exact ⟨g0, c0, clamp x, 3, zs, by rw [hn'.out], val_int (by unfold clamp; omega), clamp_le x, by rw [hn'.out]; exact hown0, hB0, hg0, by have := clamp_le x; omega, by rw [hn'.out]; omega, rfl⟩
    case round =>
      obtain ⟨g1, c1, m, f, acc, rfl, rfl, hm, ho1, hg1, ha1, hm1, hl1, he1⟩ := hrel
      by_cases hm2 : 128 ≤ m
      · have hm3 : (127 : Int) < (m : Int) := by omega
        have hbit := and127_or m hm
        go_wp2_with (at_builtin; refine wpList_app _ rfl (.tmp 15) (.tmp 20) rfl g1 acc.length c1 acc rfl (World.ownsRow.alloc ho1 _) ⟨wr.heap.size, 0, none⟩ 1 1 [(m : Int) % 128 + 128] rfl rfl (one_news wr _) (by omega) (wr.heap.size + 1) (by simp) ?_; intro g2 c2 w2 ho2 hg2 ha2)
        obtain ⟨f', rfl⟩ : ∃ f', f = f' + 1 := by
          cases f with
          | zero => omega
          | succ f' => exact ⟨f', rfl⟩
        go_roundw
        case rel => exact ⟨g2, c2, m / 128, f', acc ++ [(m : Int) % 128 + 128], by simp, by go_num, by omega, by simpa using ho2, hg1.trans (((Below.refl _ _).alloc hg1.size _).grown hg2 (by simp; have := hg1.size; omega) (by intro k hk; simp at hk; omega)), by have := hg1.size; omega, Nat.div_lt_of_lt_mul (by rw [Nat.pow_succ] at hm1; omega), by simp; omega, enc_step he1.out hm2⟩
        case measure => simp [intOf]; omega
      · have hm3 : ¬ (127 : Int) < (m : Int) := by omega
        go_wp2_with (at_builtin; refine wpList_app _ rfl (.tmp 24) (.tmp 27) rfl g1 acc.length c1 acc rfl (World.ownsRow.alloc ho1 _) ⟨wr.heap.size, 0, none⟩ 1 1 [(m : Int)] rfl rfl (one_news wr _) (by omega) (wr.heap.size + 1) (by simp) ?_; intro g2 c2 w2 ho2 hg2 ha2)
        have HE : zs ++ enc x = acc ++ [(m : Int)] := by rw [he1.out, encGo_last hm2]
        have HL : n + (enc x).length = acc.length + 1 := by
          have := congrArg List.length HE
          simp only [List.length_append, hn'.out, List.length_cons, List.length_nil] at this
          omega
        go_ret
        refine ⟨g2, c2, by rw [HL]; rfl, by have := hg1.size; omega, by rw [HL, HE]; exact ho2, hg1.trans (((Below.refl _ _).alloc hg1.size _).grown hg2 (by simp; have := hg1.size; omega) (by intro k hk; simp at hk; omega))⟩
end
end Go.Proofs.YtoeeblmnogeonaaGreatDoor
