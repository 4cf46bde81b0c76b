/-
  Joined: RecZ, CrcT.
-/
import Derived.Test.YteaciccegmichaaJ19R
namespace Go.Proofs.Yteaciccegmichaa
section
open Go.RowKit
/-- A drawn record, in memory of its own. -/
def DrawnR (w : World) (e : Ending) (w' : World) : Prop := ∃ (D : RecD) (g c : Nat), e = .returned (.agg (recC D (some ⟨g, 0, none⟩) c)) ∧ w.heap.size ≤ g ∧ (Byt D.body ∧ D.body.length ≤ 381) ∧ Own w' g D.body.length c D.body ∧ Below w.heap.size w w'
set_option maxRecDepth 100000 in
set_option maxHeartbeats 2000000 in
theorem drawPutRec_any (a : Option Addr) (n cap : Nat) (zs : List Int) (w : World) (hn : zs.length = n) (hs : n ≤ 1048576) (hr : Rd w a zs) (hb : Byt zs) :
    Calls Try.prog 7 #[.slice a n cap] w (DrawnR w) := by
  have b0 : Below w.heap.size w (w.alloc (.cells #[.int .i64 0, .int .i64 0, .slice none 0 0] 25)) := (Below.refl _ w).alloc (Nat.le_refl _) _
  have z0 := Blk.new w 25 #[.int .i64 0, .int .i64 0, .slice none 0 0]
  have hsz : (w.alloc (.cells #[.int .i64 0, .int .i64 0, .slice none 0 0] 25)).heap.size = w.heap.size + 1 := by simp
  have HSZ : Hid _ := hsz
  have HB0 : Hid _ := b0
  obtain ⟨P, hP⟩ : ∃ P, DrawnR w = P := ⟨_, rfl⟩
  have HP : Hid _ := hP
  rw [hP]
  clear hsz hP
  go_enter Try.func7, Try.ntmps7
  go_wp2_with fail
  refine (new_step a n cap zs _ hn hs (hr.keep b0) hb).mono ?_
  rintro e w1 ⟨rfl, s1, b1⟩
  have zr := z0.keep b1
  have B1 := HB0.out.trans (b1.mono HB0.out.size)
  rw [HSZ.out] at s1 ⊢
  have hsz1 := b1.size
  rw [HSZ.out] at hsz1
  clear z0 b0 b1 hr hb hn
  go_wp2_with fail
  (with_reducible refine (l12AnyS _ n cap a zs w1 s1).mono ?_)
  rintro e w2 ⟨D, g, c, rfl, hg, hD, ho, s2, g2⟩
  have zr2 := zr.kept g2 (by omega)
  have B2 : Below w.heap.size w w2 := B1.grown g2 B1.size (fun m hm => by simp at hm; omega)
  obtain ⟨kind, seq, body⟩ := D
  unfold recC
  dsimp only at hD ho ⊢
  obtain ⟨nb, hnb⟩ : ∃ m, body.length = m := ⟨_, rfl⟩
  rw [hnb] at ho ⊢
  obtain ⟨r0, r1, r2⟩ := zr2.thr
  have f0 := zr2.frozen 0
  have f1 := zr2.frozen 1
  have f2 := zr2.frozen 2
  have zf := set3_blk zr2 (.int .i64 kind) (.int .i64 seq) (.slice (some ⟨g, 0, none⟩) nb c)
  have gf := set3_gr w2 w.heap.size (.int .i64 kind) (.int .i64 seq) (.slice (some ⟨g, 0, none⟩) nb c)
  obtain ⟨d0, d1, d2⟩ := zf.thr
  have HA : Hid (Byt body ∧ body.length ≤ 381) := hD
  have HO : Hid _ := ho.kept gf (by omega)
  have HBF : Hid _ := B2.grown gf B2.size (fun k hk => by simp at hk; omega)
  have HNB : Hid _ := hnb
  have hgw : w.heap.size ≤ g := by omega
  clear zr zr2 B1 B2 s1 s2 g2 zf gf ho hD hnb
  go_wp2
  refine bodyPost_ret (v := .agg #[.int .i64 kind, .int .i64 seq, .slice (some ⟨g, 0, none⟩) nb c]) (by simp [results, Try.f7, go_sem, d0, d1, d2]) rfl ?_
  rw [← HP.out]
  refine ⟨⟨kind, seq, body⟩, g, c, by unfold recC; rw [HNB.out], hgw, HA.out, ?_, HBF.out⟩
  show Own _ g body.length c body
  rw [HNB.out]
  exact HO.out
end

section
open Go.RowKit
theorem xor_cancel {a b c : Nat} (h : a ^^^ b = a ^^^ c) : b = c := by
  have := congrArg (fun n => a ^^^ n) h
  simpa only [← Nat.xor_assoc, Nat.xor_self, Nat.zero_xor] using this
theorem rnd_inj {x y : Nat} (hx : x < 4294967296) (hy : y < 4294967296) (h : rnd x = rnd y) : x = y := by
  have bx : (x / 2).testBit 31 = false := Nat.testBit_lt_two_pow (by omega)
  have bY : (y / 2).testBit 31 = false := Nat.testBit_lt_two_pow (by omega)
  have bP : Nat.testBit 2197175160 31 = true := by decide
  by_cases ox : x % 2 = 1
  · by_cases oy : y % 2 = 1
    · rw [rnd_odd ox, rnd_odd oy] at h
      have := xor_cancel (show 2197175160 ^^^ (x / 2) = 2197175160 ^^^ (y / 2) by rw [Nat.xor_comm, h, Nat.xor_comm])
      omega
    · rw [rnd_odd ox, rnd_even oy] at h
      have h2 := congrArg (fun n => Nat.testBit n 31) h
      simp only [Nat.testBit_xor, bx, bY, bP] at h2
      simp at h2
  · by_cases oy : y % 2 = 1
    · rw [rnd_even ox, rnd_odd oy] at h
      have h2 := congrArg (fun n => Nat.testBit n 31) h
      simp only [Nat.testBit_xor, bx, bY, bP] at h2
      simp at h2
    · rw [rnd_even ox, rnd_even oy] at h
      omega
theorem rndN_inj {x y : Nat} (hx : x < 4294967296) (hy : y < 4294967296) (k : Nat) (h : rndN k x = rndN k y) : x = y := by
  induction k with
  | zero => exact h
  | succ k ih => exact ih (rnd_inj (rndN_lt hx k) (rndN_lt hy k) h)
def crcFrom (l : List Int) (x : Nat) : Nat := l.foldl (fun x c => rndN 8 (x ^^^ c.toNat)) x
theorem crcFrom_inj (l : List Int) (hb : Byt l) {x y : Nat} (hx : x < 4294967296) (hy : y < 4294967296) (h : crcFrom l x = crcFrom l y) : x = y := by
  induction l generalizing x y with
  | nil => exact h
  | cons c l ih =>
    have hc := hb c (by simp)
    have hcx : x ^^^ c.toNat < 4294967296 := xor_lt32 hx (by omega)
    have hcy : y ^^^ c.toNat < 4294967296 := xor_lt32 hy (by omega)
    have := ih (fun z hz => hb z (by simp [hz])) (rndN_lt hcx 8) (rndN_lt hcy 8) (by simpa [crcFrom] using h)
    have := rndN_inj hcx hcy 8 this
    exact xor_cancel (show c.toNat ^^^ x = c.toNat ^^^ y by rw [Nat.xor_comm, this, Nat.xor_comm])
theorem crcFrom_lt (l : List Int) (hb : Byt l) {x : Nat} (hx : x < 4294967296) : crcFrom l x < 4294967296 := by
  induction l generalizing x with
  | nil => exact hx
  | cons c l ih =>
    have hc := hb c (by simp)
    exact ih (fun z hz => hb z (by simp [hz])) (rndN_lt (xor_lt32 hx (by omega)) 8)
/-- A byte that turns turns the sum. -/
theorem crc_turn (zs : List Int) (hb : Byt zs) (i : Nat) (hi : i < zs.length) (c : Int) (h0 : 0 ≤ c) (h1 : c ≤ 255) (hne : c ≠ zs.getD i 0) : crcTo (zs.set i c) ≠ crcTo zs := by
  intro h
  have e1 : zs = zs.take i ++ zs.getD i 0 :: zs.drop (i + 1) := by
    rw [List.getD_eq_getElem?_getD, List.getElem?_eq_getElem hi, Option.getD_some, ← List.drop_eq_getElem_cons hi, List.take_append_drop]
  have e2 : zs.set i c = zs.take i ++ c :: zs.drop (i + 1) := by
    rw [List.set_eq_take_append_cons_drop, if_pos hi]
  have hz := getD_byt hb i
  have hz' : 0 ≤ zs.getD i 0 ∧ zs.getD i 0 ≤ 255 := by simpa using hz
  have hT : Byt (zs.take i) := hb.take i
  have hD : Byt (zs.drop (i + 1)) := fun z hz => hb z (List.mem_of_mem_drop hz)
  have f1 : crcTo (zs.set i c) = crcFrom (zs.drop (i + 1)) (rndN 8 (crcFrom (zs.take i) 4294967295 ^^^ c.toNat)) := by
    rw [e2]; simp [crcTo, crcFrom, List.foldl_append]
  have f2 : crcTo zs = crcFrom (zs.drop (i + 1)) (rndN 8 (crcFrom (zs.take i) 4294967295 ^^^ (zs.getD i 0).toNat)) := by
    conv => lhs; rw [e1]
    unfold crcTo crcFrom
    rw [List.foldl_append, List.foldl_cons]
  rw [f1, f2] at h
  have hs := crcFrom_lt (zs.take i) hT (x := 4294967295) (by omega)
  generalize crcFrom (zs.take i) 4294967295 = s at *
  generalize zs.getD i 0 = d at *
  have hc1 : s ^^^ c.toNat < 4294967296 := xor_lt32 hs (by omega)
  have hc2 : s ^^^ d.toNat < 4294967296 := xor_lt32 hs (by omega)
  have := crcFrom_inj _ hD (rndN_lt hc1 8) (rndN_lt hc2 8) h
  have := xor_cancel (rndN_inj hc1 hc2 8 this)
  omega
theorem flip_ne (z k : Nat) (hk : k < 8) (hz : z ≤ 255) : (z ^^^ 2 ^ k) ≠ z ∧ z ^^^ 2 ^ k ≤ 255 := by
  have h2 : 2 ^ k < 256 := by
    have := Nat.pow_lt_pow_right (a := 2) (by omega) hk
    exact this
  refine ⟨?_, ?_⟩
  · intro h
    have h1 := xor_cancel (show z ^^^ 2 ^ k = z ^^^ 0 by simpa using h)
    have := Nat.pow_pos (n := k) (show 0 < 2 by omega)
    omega
  · have := Nat.xor_lt_two_pow (n := 8) (show z < 2 ^ 8 by omega) (show 2 ^ k < 2 ^ 8 by omega)
    omega
theorem flip_in (z k : Nat) (hk : k < 8) (hz : z ≤ 255) : bits .xor .u8 (z : Int) (2 ^ min k 8 % 256) = ((z ^^^ 2 ^ k : Nat) : Int) := by
  have h2 : 2 ^ k < 256 := by
    have := Nat.pow_lt_pow_right (a := 2) (by omega) hk
    exact this
  have e : (2 : Int) ^ min k 8 % 256 = ((2 ^ k : Nat) : Int) := by
    rw [Nat.min_eq_left (by omega)]
    have : (2 : Int) ^ k = ((2 ^ k : Nat) : Int) := by simp
    rw [this]
    generalize 2 ^ k = q at *
    omega
  rw [e]
  exact u8_xor_nat z (2 ^ k) (by omega) h2
theorem own_drew {w : World} {g n c : Nat} {zs : List Int} (h : Own w g n c zs) : Own w.drew g n c zs := h.keep (Below.refl w.heap.size w).drew h.lt
theorem cells_getD (l : List Int) (j : Nat) (h : j < l.length) : (l.map (Value.int .u8))[j]? = some (.int .u8 (l.getD j 0)) := by simp [h]
def atVal (zs : List Int) (n i : Nat) : Nat := if i < n then (zs.getD i 0).toNat else (i * 31 + n * 7) % 256
theorem atVal_le (zs : List Int) (n i : Nat) (hb : Byt zs) : atVal zs n i ≤ 255 := by
  unfold atVal
  have := getD_byt hb i
  split
  · simp; omega
  · omega
set_option maxHeartbeats 400000 in
theorem at_any (a : Option Addr) (n cap : Nat) (zs : List Int) (i : Nat) (w : World) (hn : zs.length = n) (hs : n ≤ 1048576) (hi : i ≤ 1000) (hr : Rd w a zs) (hb : Byt zs) :
    Calls Try.prog 12 #[.slice a n cap, .int .i64 i] w fun e w' => e = .returned (.int .i64 (atVal zs n i)) ∧ w' = w := by
  by_cases hin : i < n
  · obtain ⟨b, off, rfl, hlt, hc⟩ := hr.lt (by intro h; subst h; simp at hn; omega)
    have hcx := hc i (by omega)
    obtain ⟨Z, hZ, hZ1⟩ := byt_at hb i
    rw [hZ] at hcx
    have HV : atVal zs n i = Z := by unfold atVal; rw [if_pos hin, hZ]; rfl
    rw [HV]
    clear HV hZ hr hc
    have hin' : (i : Int) < (n : Int) := by omega
    go_enter Try.func12, Try.ntmps12
    go_wp2
    go_ret
    exact ⟨rfl, rfl⟩
  · have HV : atVal zs n i = (i * 31 + n * 7) % 256 := by unfold atVal; rw [if_neg hin]
    rw [HV]
    clear HV
    have hin' : ¬ (i : Int) < (n : Int) := by omega
    go_enter Try.func12, Try.ntmps12
    go_wp2
    go_ret
    exact ⟨ret_int (by omega), rfl⟩
end
end Go.Proofs.Yteaciccegmichaa
