/-
  Joined: OpPut, OpW, RecM, CrcF.
-/
import Derived.Test.YtoeeblmnogeonaaGreatDoorJ20T
import Derived.Test.YtoeeblmnogeonaaGreatDoorJ21T
namespace Go.Proofs.YtoeeblmnogeonaaGreatDoor
section
open Go.RowKit
theorem encs_len2 (x y : Int) : (encs [x, y]).length ≤ 8 := by
  have i1 := enc_len x
  have i2 := enc_len y
  simp only [encs, List.flatMap_cons, List.flatMap_nil, List.length_append, List.length_nil]
  omega
theorem encTs_len1 (x : ByteArray) : (encTs [x]).length ≤ x.size + 4 := by rw [encTs_one]; exact encT_len x
theorem specTextB (g c : Nat) (acc : List Int) (z : ByteArray) (W : World) (hs : acc.length ≤ 2000000) (hz : z.size ≤ 2000000) (ho : Own W g acc.length c acc) :
    Calls Tryz.prog 134 #[.slice (some ⟨g, 0, none⟩) acc.length c, .string z] W (PutPost W (acc ++ encT z).length (acc ++ encT z)) := by
  have h := specPutText_any ⟨g, 0, none⟩ acc.length c acc z W rfl (by omega) (by omega) ho.rd
  rw [List.append_assoc, show enc (z.size : Int) ++ strZ z = encT z from rfl, show acc.length + (enc (z.size : Int)).length + z.size = (acc ++ encT z).length by rw [List.length_append, encT, List.length_append, strZ_len]; omega] at h
  exact h
theorem specNumB (g c : Nat) (acc : List Int) (x : Int) (W : World) (hs : acc.length ≤ 2000000) (ho : Own W g acc.length c acc) :
    Calls Tryz.prog 135 #[.slice (some ⟨g, 0, none⟩) acc.length c, .int .i64 x] W (PutPost W (acc ++ enc x).length (acc ++ enc x)) := by
  have h := specPutNum_any ⟨g, 0, none⟩ acc.length c acc x W rfl (by omega) ho.rd
  rw [← List.length_append] at h
  exact h
end

section
open Go.RowKit
theorem RowB.keep {w w' : World} {v : Value} {n : Nat} {zs : List Int} (h : RowB w v n zs) (hb : Below w.heap.size w w') : RowB w' v n zs := h.block fun g hg => hb.block g (h.at_ hg).1
theorem RowB.gr {w w' : World} {v : Value} {n : Nat} {zs : List Int} {r : Option Nat} (h : RowB w v n zs) (hg : w.grownBy w' r) (hne : ∀ g, v.ownBlock = some g → some g ≠ r) : RowB w' v n zs := h.block fun g hv => hg.block g (h.at_ hv).1 (hne g hv)
theorem RowB.rd {w : World} {a : Option Addr} {c n : Nat} {zs : List Int} (h : RowB w (.slice a n c) n zs) : Rd w a zs := by
  obtain ⟨a', c', e, hr⟩ := h.form
  simp only [Value.slice.injEq, true_and] at e
  obtain ⟨rfl, _⟩ := e
  exact hr
theorem Own.rowB {w : World} {g n c : Nat} {zs : List Int} (h : Own w g n c zs) : RowB w (.slice (some ⟨g, 0, none⟩) n c) n zs := OwnV.rowB (B := 0) h
/-- What was changed lies at or behind B. -/
theorem below_gro {B : Nat} {w0 w w' : World} {r : Option Nat} (h : Below B w0 w) (hB : B ≤ w0.heap.size) (hg : w.grownBy w' r) (hr : ∀ g, r = some g → B ≤ g) : Below B w0 w' := h.grown hg (Nat.le_trans hB h.size) hr
end

section
open Go.ChangeShapes Go.WideShapes Go.ChangeAt Go.RowKit
/-- What a record tells. -/
structure RecD where
  kind : Int
  seq : Int
  body : List Int
/-- A record's cells: its bytes lie at a. -/
def recC (D : RecD) (a : Option Addr) (c : Nat) : Array Value := #[.int .i64 D.kind, .int .i64 D.seq, .slice a D.body.length c]
/-- A record that is small. -/
def RecSmall (D : RecD) : Prop := D.body.length ≤ 1048576
/-- Its bytes can be read. -/
def RecRd (w : World) (D : RecD) (a : Option Addr) : Prop := Rd w a D.body ∧ Byt D.body
theorem RecRd.keep {w w' : World} {D : RecD} {a : Option Addr} (h : RecRd w D a) (hb : Below w.heap.size w w') : RecRd w' D a := ⟨h.1.keep hb, h.2⟩
section
variable {H : Type} {enc : TypeId × Value → H} {w : World} {base : Nat} {held : Bool}
end
structure Thr (W : World) (B : Nat) (v0 v1 v2 : Value) : Prop where
  c0 : W.cell? ⟨B, 0, none⟩ = some v0
  c1 : W.cell? ⟨B, 1, none⟩ = some v1
  c2 : W.cell? ⟨B, 2, none⟩ = some v2
theorem Blk.thr {W : World} {B : Nat} {t : TypeId} {v0 v1 v2 : Value} (h : Blk W B t #[v0, v1, v2]) : Thr W B v0 v1 v2 := ⟨h.cell 0, h.cell 1, h.cell 2⟩
theorem set3_blk {W : World} {X : Nat} {t : TypeId} {u0 u1 u2 : Value} (h : Blk W X t #[u0, u1, u2]) (v0 v1 v2 : Value) : Blk (((W.setCell ⟨X, 0, none⟩ v0).setCell ⟨X, 1, none⟩ v1).setCell ⟨X, 2, none⟩ v2) X t #[v0, v1, v2] := ((h.set 0 v0).set 1 v1).set 2 v2
theorem set3_gr (W : World) (X : Nat) (v0 v1 v2 : Value) : W.grownBy (((W.setCell ⟨X, 0, none⟩ v0).setCell ⟨X, 1, none⟩ v1).setCell ⟨X, 2, none⟩ v2) (some X) := ((gr_setC W X 0 v0).trans (gr_setC _ X 1 v1)).trans (gr_setC _ X 2 v2)
/-- A record that is right. -/
def recOk (D : RecD) : Bool := decide (1 ≤ D.kind) && decide (D.kind ≤ 4) && decide (0 ≤ D.seq) && decide (D.seq ≤ 1000000) && decide (D.body.length ≤ 380)
theorem recOk_iff (D : RecD) : recOk D = true ↔ 1 ≤ D.kind ∧ D.kind ≤ 4 ∧ 0 ≤ D.seq ∧ D.seq ≤ 1000000 ∧ D.body.length ≤ 380 := by
  unfold recOk
  simp only [Bool.and_eq_true, decide_eq_true_eq, and_assoc]
set_option maxHeartbeats 1600000 in
theorem recOkI (D : RecD) (a : Option Addr) (c : Nat) (w : World) (hm : D.body.length ≤ 4000000) :
    Calls Tryz.prog 75 #[.agg (recC D a c)] w fun e w' => e = .returned (.bool (recOk D)) ∧ Below w.heap.size w w' := by
  obtain ⟨kind, seq, body⟩ := D
  unfold recC recOk
  dsimp only at hm ⊢
  obtain ⟨n, hn⟩ : ∃ n, body.length = n := ⟨_, rfl⟩
  rw [hn] at hm ⊢
  clear hn
  have B0 : Below w.heap.size w (w.alloc (.cells #[.int .i64 kind, .int .i64 seq, .slice a n c] 61)) := (Below.refl _ w).alloc (Nat.le_refl _) _
  by_cases h1 : 1 ≤ kind
  · by_cases h2 : kind ≤ 4
    · by_cases h3 : 0 ≤ seq
      · by_cases h4 : seq ≤ 1000000
        · by_cases h5 : n ≤ 380
          · have h5' : (n : Int) ≤ 380 := by omega
            go_enter Tryz.func75, Tryz.ntmps75
            go_wp2
            go_ret
            exact ⟨by first | (simp; omega) | (simp; done) | (simp_all; done) | (simp_all; omega), B0⟩
          · have h5' : ¬ (n : Int) ≤ 380 := by omega
            go_enter Tryz.func75, Tryz.ntmps75
            go_wp2
            go_ret
            exact ⟨by first | (simp; omega) | (simp; done) | (simp_all; done) | (simp_all; omega), B0⟩
        · go_enter Tryz.func75, Tryz.ntmps75
          go_wp2
          go_ret
          exact ⟨by first | (simp; omega) | (simp; done) | (simp_all; done) | (simp_all; omega), B0⟩
      · go_enter Tryz.func75, Tryz.ntmps75
        go_wp2
        go_ret
        exact ⟨by first | (simp; omega) | (simp; done) | (simp_all; done) | (simp_all; omega), B0⟩
    · go_enter Tryz.func75, Tryz.ntmps75
      go_wp2
      go_ret
      exact ⟨by first | (simp; omega) | (simp; done) | (simp_all; done) | (simp_all; omega), B0⟩
  · go_enter Tryz.func75, Tryz.ntmps75
    go_wp2
    go_ret
    exact ⟨by first | (simp; omega) | (simp; done) | (simp_all; done) | (simp_all; omega), B0⟩
set_option maxHeartbeats 1600000 in
theorem recOkS (D : RecD) (a : Option Addr) (c : Nat) (w : World) (hm : D.body.length ≤ 4000000) :
    Calls Tryz.prog 78 #[.agg (recC D a c)] w fun e w' => e = .returned (.bool (recOk D)) ∧ Below w.heap.size w w' := by
  obtain ⟨kind, seq, body⟩ := D
  unfold recC recOk
  dsimp only at hm ⊢
  obtain ⟨n, hn⟩ : ∃ n, body.length = n := ⟨_, rfl⟩
  rw [hn] at hm ⊢
  clear hn
  have B0 : Below w.heap.size w (w.alloc (.cells #[.int .i64 kind, .int .i64 seq, .slice a n c] 61)) := (Below.refl _ w).alloc (Nat.le_refl _) _
  have i1 := fun W => l1In_any kind 1 4 W
  have i2 := fun W => l1In_any seq 0 1000000 W
  by_cases h1 : 1 ≤ kind ∧ kind ≤ 4
  · have e1 : (decide (1 ≤ kind) && decide (kind ≤ 4)) = true := by simp; omega
    rw [e1] at i1
    by_cases h2 : 0 ≤ seq ∧ seq ≤ 1000000
    · have e2 : (decide (0 ≤ seq) && decide (seq ≤ 1000000)) = true := by simp; omega
      rw [e2] at i2
      by_cases h5 : n ≤ 380
      · have h5' : (n : Int) ≤ 380 := by omega
        go_enter Tryz.func78, Tryz.ntmps78
        go_wp2_with fail
        refine (i1 _).mono ?_
        rintro e w1 ⟨rfl, hw⟩
        subst hw
        go_wp2_with fail
        refine (i2 _).mono ?_
        rintro e w1 ⟨rfl, hw⟩
        subst hw
        go_wp2
        go_ret
        exact ⟨by first | (simp; omega) | (simp; done) | (simp_all; done) | (simp_all; omega), B0⟩
      · have h5' : ¬ (n : Int) ≤ 380 := by omega
        go_enter Tryz.func78, Tryz.ntmps78
        go_wp2_with fail
        refine (i1 _).mono ?_
        rintro e w1 ⟨rfl, hw⟩
        subst hw
        go_wp2_with fail
        refine (i2 _).mono ?_
        rintro e w1 ⟨rfl, hw⟩
        subst hw
        go_wp2
        go_ret
        exact ⟨by first | (simp; omega) | (simp; done) | (simp_all; done) | (simp_all; omega), B0⟩
    · have e2 : (decide (0 ≤ seq) && decide (seq ≤ 1000000)) = false := by simp; omega
      rw [e2] at i2
      go_enter Tryz.func78, Tryz.ntmps78
      go_wp2_with fail
      refine (i1 _).mono ?_
      rintro e w1 ⟨rfl, hw⟩
      subst hw
      go_wp2_with fail
      refine (i2 _).mono ?_
      rintro e w1 ⟨rfl, hw⟩
      subst hw
      go_wp2
      go_ret
      exact ⟨by first | (simp; omega) | (simp; done) | (simp_all; done) | (simp_all; omega), B0⟩
  · have e1 : (decide (1 ≤ kind) && decide (kind ≤ 4)) = false := by simp; omega
    rw [e1] at i1
    go_enter Tryz.func78, Tryz.ntmps78
    go_wp2_with fail
    refine (i1 _).mono ?_
    rintro e w1 ⟨rfl, hw⟩
    subst hw
    go_wp2
    go_ret
    exact ⟨by first | (simp; omega) | (simp; done) | (simp_all; done) | (simp_all; omega), B0⟩
end

section
open Go.RowKit
set_option maxHeartbeats 800000 in
theorem implCrc_any (a : Option Addr) (n cap : Nat) (zs : List Int) (w : World) (hn : zs.length = n) (hs : n ≤ 4000000) (hr : Rd w a zs) (hb : Byt zs) :
    Calls Tryz.prog 124 #[.slice a n cap] w fun e w' => e = .returned (.int .i64 ((crcTo zs ^^^ 4294967295 : Nat) : Int)) ∧ w' = w := by
  by_cases h0 : n = 0
  · subst h0
    obtain rfl : zs = [] := List.length_eq_zero_iff.1 hn
    go_enter Tryz.func124, Tryz.ntmps124
    go_wp2
    refine wp_loop_rounds 1 ?_; rw [rounds_succ]
    go_wp2
    go_ret
    exact ⟨ret_int (last_in 4294967295 (by omega)), rfl⟩
  · obtain ⟨b, off, rfl, hlt, hc⟩ := hr.lt (by intro h; subst h; simp at hn; omega)
    clear hr
    have hn' : Hid (zs.length = n) := hn
    clear hn
    go_enter Tryz.func124, Tryz.ntmps124
    go_wp2
    go_loop [3, 9] (fun x i => ∃ k X : Nat, k ≤ n ∧ i = .int .i64 k ∧ x = .int .u32 X ∧ X < 4294967296 ∧ Hid (X = crcTo (zs.take k))) (fun _ i => n - (intOf i).toNat)
    case atStart => exact ⟨0, 4294967295, Nat.zero_le _, rfl, rfl, by omega, rfl⟩
    case round =>
      obtain ⟨k, X, hk, rfl, rfl, hX, hXe⟩ := hrel
      by_cases hkn : k < n
      · have hcx := hc k (by rw [hn'.out]; exact hkn)
        obtain ⟨Z, hZ, hZ1⟩ := byt_at hb k
        rw [hZ] at hcx
        have hZe : Hid (zs.getD k 0 = (Z : Int)) := hZ
        clear hZ
        have hX0 : X ^^^ Z < 4294967296 := xor_lt32 hX (by omega)
        go_wp2
        go_loop [3, 17] (fun x i => ∃ j y : Nat, j ≤ 8 ∧ i = .int .i64 j ∧ x = .int .u32 y ∧ y < 4294967296 ∧ Hid (y = rndN j (X ^^^ Z))) (fun _ i => 8 - (intOf i).toNat)
        case atStart => exact ⟨0, X ^^^ Z, Nat.zero_le _, rfl, val_int (u32_xor_nat _ _ hX (by omega)), hX0, rfl⟩
        case round =>
          obtain ⟨j, y, hj, rfl, rfl, hY, hYe⟩ := hrel
          by_cases hj8 : j < 8
          · by_cases ho : y % 2 = 1
            · have ht : (bits .and .u32 (y : Int) 1 == 1) = true := by rw [u32_and1 _ hY, ho]; rfl
              have ho' : Hid (y % 2 = 1) := ho
              clear ho
              go_wp2
              go_round
              case rel => exact ⟨j + 1, rnd y, by omega, by go_num, val_int (by rw [rnd_odd ho'.out]; exact half_in y hY), rnd_lt hY, rnd_step hYe.out⟩
              case measure => simp [intOf]; omega
            · have ht : (bits .and .u32 (y : Int) 1 == 1) = false := by
                rw [u32_and1 _ hY, beq_eq_false_iff_ne]; omega
              have ho' : Hid (¬ y % 2 = 1) := ho
              clear ho
              go_wp2
              go_round
              case rel => exact ⟨j + 1, rnd y, by omega, by go_num, val_int (by rw [rnd_even ho'.out]; rfl), rnd_lt hY, rnd_step hYe.out⟩
              case measure => simp [intOf]; omega
          · obtain rfl : j = 8 := by omega
            go_wp2
            go_round
            case rel => exact ⟨k + 1, y, by omega, by go_num, rfl, hY, by rw [← crc_round hn'.out hkn hXe.out hZe.out]; exact hYe⟩
            case measure => simp [intOf]; omega
      · go_wp2
        go_ret
        exact ⟨ret_int (by rw [last_in _ hX, hXe.out, List.take_of_length_le (by rw [hn'.out]; omega)]), rfl⟩
set_option maxHeartbeats 800000 in
theorem specCrc_any (a : Option Addr) (n cap : Nat) (zs : List Int) (w : World) (hn : zs.length = n) (hs : n ≤ 4000000) (hr : Rd w a zs) (hb : Byt zs) :
    Calls Tryz.prog 136 #[.slice a n cap] w fun e w' => e = .returned (.int .i64 ((crcTo zs ^^^ 4294967295 : Nat) : Int)) ∧ w' = w := by
  by_cases h0 : n = 0
  · subst h0
    obtain rfl : zs = [] := List.length_eq_zero_iff.1 hn
    go_enter Tryz.func136, Tryz.ntmps136
    go_wp2
    refine wp_loop_rounds 1 ?_; rw [rounds_succ]
    go_wp2
    go_ret
    exact ⟨ret_int (last_in64 4294967295 (by omega)), rfl⟩
  · obtain ⟨b, off, rfl, hlt, hc⟩ := hr.lt (by intro h; subst h; simp at hn; omega)
    clear hr
    have hn' : Hid (zs.length = n) := hn
    clear hn
    go_enter Tryz.func136, Tryz.ntmps136
    go_wp2
    go_loop [3, 4] (fun x i => ∃ k X : Nat, k ≤ n ∧ i = .int .i64 k ∧ x = .int .i64 X ∧ X < 4294967296 ∧ Hid (X = crcTo (zs.take k))) (fun _ i => n - (intOf i).toNat)
    case atStart => exact ⟨0, 4294967295, Nat.zero_le _, rfl, rfl, by omega, rfl⟩
    case round =>
      obtain ⟨k, X, hk, rfl, rfl, hX, hXe⟩ := hrel
      by_cases hkn : k < n
      · have hcx := hc k (by rw [hn'.out]; exact hkn)
        obtain ⟨Z, hZ, hZ1⟩ := byt_at hb k
        rw [hZ] at hcx
        have hZe : Hid (zs.getD k 0 = (Z : Int)) := hZ
        clear hZ
        have hX0 : X ^^^ Z < 4294967296 := xor_lt32 hX (by omega)
        go_wp2
        go_loop [3, 5] (fun x i => ∃ j y : Nat, j ≤ 8 ∧ i = .int .i64 j ∧ x = .int .i64 y ∧ y < 4294967296 ∧ Hid (y = rndN j (X ^^^ Z))) (fun _ i => 8 - (intOf i).toNat)
        case atStart => exact ⟨0, X ^^^ Z, Nat.zero_le _, rfl, val_int (i64_xor_nat _ _ (by omega) (by omega)), hX0, rfl⟩
        case round =>
          obtain ⟨j, y, hj, rfl, rfl, hY, hYe⟩ := hrel
          by_cases hj8 : j < 8
          · by_cases ho : y % 2 = 1
            · have ht : (bits .and .i64 (y : Int) 1 == 1) = true := by rw [i64_and1 _ hY, ho]; rfl
              have ho' : Hid (y % 2 = 1) := ho
              clear ho
              go_wp2
              go_round
              case rel => exact ⟨j + 1, rnd y, by omega, by go_num, val_int (by rw [rnd_odd ho'.out]; exact half_in64 y hY), rnd_lt hY, rnd_step hYe.out⟩
              case measure => simp [intOf]; omega
            · have ht : (bits .and .i64 (y : Int) 1 == 1) = false := by
                rw [i64_and1 _ hY, beq_eq_false_iff_ne]; omega
              have ho' : Hid (¬ y % 2 = 1) := ho
              clear ho
              go_wp2
              go_round
              case rel => exact ⟨j + 1, rnd y, by omega, by go_num, val_int (by rw [rnd_even ho'.out]; rfl), rnd_lt hY, rnd_step hYe.out⟩
              case measure => simp [intOf]; omega
          · obtain rfl : j = 8 := by omega
            go_wp2
            go_round
            case rel => exact ⟨k + 1, y, by omega, by go_num, rfl, hY, by rw [← crc_round hn'.out hkn hXe.out hZe.out]; exact hYe⟩
            case measure => simp [intOf]; omega
      · go_wp2
        go_ret
        exact ⟨ret_int (by rw [last_in64 _ hX, hXe.out, List.take_of_length_le (by rw [hn'.out]; omega)]), rfl⟩
end
end Go.Proofs.YtoeeblmnogeonaaGreatDoor
