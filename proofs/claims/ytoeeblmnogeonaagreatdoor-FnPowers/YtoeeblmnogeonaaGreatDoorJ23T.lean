/-
  Joined: RecS, Draw, DrawS, DrawI.
-/
import Derived.Test.YtoeeblmnogeonaaGreatDoorJ22T
import Derived.ArgAppend
import Derived.Laws.BitsLemmas
namespace Go.Proofs.YtoeeblmnogeonaaGreatDoor
section
open Go.RowKit
/-- The sum of bytes, and its four bytes, the highest first. -/
def sumOf (zs : List Int) : Int := ((crcTo zs ^^^ 4294967295 : Nat) : Int)
def sum4 (s : Int) : List Int := [s / 16777216, s / 65536 % 256, s / 256 % 256, s % 256]
/-- Bytes with their sum. -/
def summedOf (zs : List Int) : List Int := zs ++ sum4 (sumOf zs)
theorem sumOf_lt (zs : List Int) (hb : Byt zs) : 0 ≤ sumOf zs ∧ sumOf zs < 4294967296 := by
  have := xor_lt32 (crcTo_lt zs hb) (show 4294967295 < 4294967296 by omega)
  unfold sumOf
  omega
theorem sum4_byt {s : Int} (h : 0 ≤ s ∧ s < 4294967296) : Byt (sum4 s) := by
  intro z hz
  simp only [sum4, List.mem_cons, List.not_mem_nil, or_false] at hz
  omega
theorem summedOf_byt {zs : List Int} (hb : Byt zs) : Byt (summedOf zs) := by
  intro z hz
  rcases List.mem_append.1 hz with h | h
  · exact hb z h
  · exact sum4_byt (sumOf_lt zs hb) z h
theorem summedOf_len (zs : List Int) : (summedOf zs).length = zs.length + 4 := by simp [summedOf, sum4]
theorem four_news (w : World) (a b c d : Int) : ∀ j, j < 4 → (w.alloc (.cells #[.int .u8 a, .int .u8 b, .int .u8 c, .int .u8 d] 5)).cell? ((⟨w.heap.size, 0, none⟩ : Addr).add j) = some (.int .u8 (([a, b, c, d] : List Int).getD j 0)) := by
  intro j hj
  rw [add_at, (Blk.new w 5 #[.int .u8 a, .int .u8 b, .int .u8 c, .int .u8 d]).cell j]
  match j, hj with
  | 0, _ => rfl
  | 1, _ => rfl
  | 2, _ => rfl
  | 3, _ => rfl
set_option maxHeartbeats 1600000 in
theorem withSum_own (g n c : Nat) (zs : List Int) (w : World) (hs : n ≤ 4000000) (hb : Byt zs) (ho : Own w g n c zs) :
    Calls Tryz.prog 88 #[.slice (some ⟨g, 0, none⟩) n c] w fun e w' => ∃ g' c', e = .returned (.slice (some ⟨g', 0, none⟩) (n + 4) c') ∧ (g' = g ∨ w.heap.size ≤ g') ∧ Own w' g' (n + 4) c' (summedOf zs) ∧ w.grownBy w' (some g) := by
  have hc := implCrc_any (some ⟨g, 0, none⟩) n c zs w ho.len hs ho.rd hb
  have hlt := sumOf_lt zs hb
  have hS : Hid (summedOf zs = zs ++ sum4 (sumOf zs)) := rfl
  rw [show ((crcTo zs ^^^ 4294967295 : Nat) : Int) = sumOf zs from rfl] at hc
  generalize sumOf zs = s at *
  generalize summedOf zs = Y at *
  go_enter Tryz.func88, Tryz.ntmps88
  go_wp2_with fail
  refine hc.mono ?_
  rintro e w1 ⟨rfl, hw⟩
  obtain rfl := hw.symm
  clear hc
  go_wp2_with (at_builtin; refine wpList_app _ rfl (.tmp 6) (.tmp 18) rfl g n c zs rfl (World.ownsRow.alloc ho _) ⟨w.heap.size, 0, none⟩ 4 4 (sum4 s) rfl rfl (four_news w _ _ _ _) (by omega) (w.heap.size + 1) (by simp) ?_; intro g2 c2 w2 ho2 hg2 ha2)
  go_wp2
  go_ret
  refine ⟨g2, c2, rfl, ?_, by rw [hS.out]; exact ho2, (World.grownBy_alloc w _ _).trans hg2⟩
  omega
set_option maxHeartbeats 1600000 in
theorem withSum_cut (b off n : Nat) (zs : List Int) (w : World) (hn : zs.length = n) (hs : n ≤ 4000000) (hb : Byt zs) (hr : Rd w (some ⟨b, off, none⟩) zs) :
    Calls Tryz.prog 88 #[.slice (some ⟨b, off, none⟩) n n] w fun e w' => ∃ a c, e = .returned (.slice a (n + 4) c) ∧ Rd w' a (summedOf zs) ∧ Below w.heap.size w w' := by
  have hc := implCrc_any (some ⟨b, off, none⟩) n n zs w hn hs hr hb
  have hlt := sumOf_lt zs hb
  have hS : Hid (summedOf zs = zs ++ sum4 (sumOf zs)) := rfl
  rw [show ((crcTo zs ^^^ 4294967295 : Nat) : Int) = sumOf zs from rfl] at hc
  have hn' : Hid (zs.length = n) := hn
  generalize sumOf zs = s at *
  generalize summedOf zs = Y at *
  obtain ⟨i0, hi, hz0, hz1, hz2⟩ := info_parts Tryz.info5
  have h8 : n + 4 ≤ maxLen := by unfold maxLen; omega
  clear hn
  go_enter Tryz.func88, Tryz.ntmps88
  go_wp2_with fail
  refine hc.mono ?_
  rintro e w1 ⟨rfl, hw⟩
  obtain rfl := hw.symm
  clear hc
  go_wp2_with (at_builtin; refine wpList_append_grows _ rfl (.tmp 6) (.tmp 18) 22 rfl 5 i0 (.int .u8 0) 1 1 Tryz.underlying22 hi hz0 hz1 hz2 rfl (by decide) (some ⟨b, off, none⟩) n n (zs.map (Value.int .u8)) rfl (by simp) (by simp [hn'.out]) (fun q hq j u hj => ?_) ⟨w.heap.size, 0, none⟩ 4 4 ((sum4 s).map (Value.int .u8)) rfl rfl (fun j u hj => ?_) (fun u hu => ?_) (by omega) h8 (by omega) ?_)
  · obtain rfl : (⟨b, off, none⟩ : Addr) = q := by simpa using hq
    have hr2 : Rd (w.alloc (.cells #[.int .u8 (s / 16777216), .int .u8 (s / 65536 % 256), .int .u8 (s / 256 % 256), .int .u8 (s % 256)] 5)) (some ⟨b, off, none⟩) zs := hr.keep ((Below.refl _ w).alloc (Nat.le_refl _) _)
    simp only [List.getElem?_map] at hj
    by_cases hjm : j < zs.length
    · have := hr2.news rfl j hjm
      rw [List.getElem?_eq_getElem hjm] at hj
      rw [this]
      simpa [List.getElem?_eq_getElem hjm] using hj
    · rw [List.getElem?_eq_none (by omega)] at hj
      simp at hj
  · have hf := four_news w (s / 16777216) (s / 65536 % 256) (s / 256 % 256) (s % 256)
    by_cases hj4 : j < 4
    · rw [hf j hj4]
      match j, hj4 with
      | 0, _ => simpa [sum4] using hj
      | 1, _ => simpa [sum4] using hj
      | 2, _ => simpa [sum4] using hj
      | 3, _ => simpa [sum4] using hj
    · rw [List.getElem?_eq_none (by simp [sum4]; omega)] at hj
      simp at hj
  · obtain ⟨z, _, rfl⟩ := List.mem_map.1 hu
    rfl
  · intro v' w' h1 h2
    have hv : OwnV 0 w' v' (n + 4) Y := by
      rw [hS.out]
      unfold OwnV
      rw [List.map_append]
      refine ⟨h1.1, ?_⟩
      rcases h1.2 with h | ⟨q, cap, cur, e1, _, e3, e4, e5⟩
      · exact .inl h
      · exact .inr ⟨q, cap, cur, e1, Nat.zero_le _, e3, e4, e5⟩
    obtain ⟨q, cq, rfl, _, hq⟩ := hv.some (by omega)
    go_wp2
    go_ret
    refine ⟨_, cq, rfl, hq.rd, ?_⟩
    have B0 : Below w.heap.size w (w.alloc (.cells #[.int .u8 (s / 16777216), .int .u8 (s / 65536 % 256), .int .u8 (s / 256 % 256), .int .u8 (s % 256)] 5)) := (Below.refl _ w).alloc (Nat.le_refl _) _
    exact B0.grown h2 B0.size (fun k hk => by cases hk)
theorem Rd.tk {w : World} {a : Option Addr} {zs : List Int} (h : Rd w a zs) (k : Nat) : Rd w a (zs.take k) := by
  rcases h with rfl | ⟨b, off, rfl, hc⟩
  · exact .inl (by simp)
  · refine .inr ⟨b, off, rfl, fun i hi => ?_⟩
    rw [List.length_take] at hi
    rw [hc i (by omega)]
    simp only [List.getD_eq_getElem?_getD, List.getElem?_take, if_pos (show i < k by omega)]
/-- Whether the sum at the end is that of what is ahead. -/
def sumB (zs : List Int) : Bool := decide (summedOf (zs.take (zs.length - 4)) = zs)
set_option maxHeartbeats 1600000 in
theorem summed_no (a : Option Addr) (n cap : Nat) (w : World) (h : n < 4) :
    Calls Tryz.prog 138 #[.slice a n cap] w fun e w' => e = .returned (.tuple #[.slice none 0 0, .bool false]) ∧ w' = w := by
  have h1 : ((n : Int) - 4) < 0 := by omega
  go_enter Tryz.func138, Tryz.ntmps138
  go_wp2
  refine bodyPost_ret (v := .tuple #[.slice none 0 0, .bool false]) (by simp [results, Tryz.f138, go_sem]) rfl ?_
  exact ⟨rfl, rfl⟩
set_option maxHeartbeats 1600000 in
theorem summed_yes (b off cap m : Nat) (zs : List Int) (w : World) (hn : zs.length = m + 4) (hs : m + 4 ≤ 1048576) (hcap : m + 4 ≤ cap) (hb : Byt zs) (hr : Rd w (some ⟨b, off, none⟩) zs) :
    Calls Tryz.prog 138 #[.slice (some ⟨b, off, none⟩) (m + 4) cap] w fun e w' => e = .returned (.tuple #[.slice (some ⟨b, off, none⟩) m m, .bool (sumB zs)]) ∧ Below w.heap.size w w' := by
  have h1 : ¬ (((m + 4 : Nat) : Int) - 4) < 0 := by omega
  have h2 : ((m + 4 : Nat) : Int) - 4 = (m : Int) := by omega
  have h3 : (m : Int) ≤ (cap : Int) := by omega
  have hlt : (zs.take m).length = m := by rw [List.length_take]; omega
  have hbt : Byt (zs.take m) := hb.take m
  have hrt : Rd w (some ⟨b, off, none⟩) (zs.take m) := hr.tk m
  have cW := withSum_cut b off m (zs.take m) w hlt (by omega) hbt hrt
  have hbS := summedOf_byt hbt
  have hlS : (summedOf (zs.take m)).length = m + 4 := by rw [summedOf_len, hlt]
  have hB : sumB zs = decide (summedOf (zs.take m) = zs) := by unfold sumB; rw [hn]; rfl
  rw [hB]
  clear hB
  generalize summedOf (zs.take m) = Y at *
  have hn' : Hid (zs.length = m + 4) := hn
  have hlS' : Hid (Y.length = m + 4) := hlS
  clear hn hlS hlt
  go_enter Tryz.func138, Tryz.ntmps138
  go_wp2_with fail
  refine cW.mono ?_
  rintro e w1 ⟨a1, c1, rfl, r1, b1⟩
  go_wp2_with fail
  refine (bytesEq_any a1 (some ⟨b, off, none⟩) (m + 4) (m + 4) c1 cap Y zs w1 hlS'.out hn'.out r1 (hr.keep b1) hbS hb).mono ?_
  rintro e w2 ⟨rfl, hw⟩
  obtain rfl := hw.symm
  go_wp2
  refine bodyPost_ret (v := .tuple #[.slice (some ⟨b, off, none⟩) m m, .bool (decide (Y = zs))]) (by simp [results, Tryz.f138, go_sem]) rfl ?_
  exact ⟨rfl, b1⟩
end

section
open Go.RowKit
theorem i64_and255 (n : Int) : bits .and .i64 n 255 = n % 256 := by
  have h255 : (BitVec.ofInt 64 255).toNat = 2 ^ 8 - 1 := by decide
  have key : (BitVec.ofInt 64 n &&& BitVec.ofInt 64 255).toNat = (n % ((2 ^ 64 : Nat) : Int)).toNat % 2 ^ 8 := by
    rw [BitVec.toNat_and, BitVec.toNat_ofInt, h255, Nat.and_two_pow_sub_one_eq_mod]
  show IntKind.i64.wrap ((BitVec.ofInt 64 n &&& BitVec.ofInt 64 255).toNat : Nat) = n % 256
  rw [key, IntKind.wrap_i64]
  omega
/-- The cursor gc over the slice (a, n, cap). -/
def Cur (w : World) (gc : Nat) (a : Option Addr) (n cap : Nat) : Prop :=
  ∃ (i : Nat) (h : Int), i ≤ n ∧ w.heap[gc]? = some (.cells #[.slice a n cap, .int .i64 i, .int .i64 h] 118 (0, 0))
theorem Cur.kept {w w' : World} {gc n cap g : Nat} {a : Option Addr} (h : Cur w gc a n cap) (hg : w.grownBy w' (some g)) (hne : gc ≠ g) : Cur w' gc a n cap := by
  obtain ⟨i, hh, hi, hb⟩ := h
  exact ⟨i, hh, hi, by rw [hg.block gc (Array.getElem?_eq_some_iff.1 hb).1 (by simpa using hne)]; exact hb⟩
theorem Cur.keep {w w' : World} {gc n cap B : Nat} {a : Option Addr} (h : Cur w gc a n cap) (hb : Below B w w') (hg : gc < B) : Cur w' gc a n cap := by
  obtain ⟨i, hh, hi, hbk⟩ := h
  exact ⟨i, hh, hi, by rw [hb.block gc hg]; exact hbk⟩
theorem Cur.lt {w : World} {gc n cap : Nat} {a : Option Addr} (h : Cur w gc a n cap) : gc < w.heap.size := by
  obtain ⟨i, hh, hi, hb⟩ := h
  exact (Array.getElem?_eq_some_iff.1 hb).1
theorem cur_set2 {w : World} {gc : Nat} {v0 v1 v2 v : Value} {e : TypeId} (hb : w.heap[gc]? = some (.cells #[v0, v1, v2] e (0, 0))) : (w.setCell ⟨gc, 2, none⟩ v).heap[gc]? = some (.cells #[v0, v1, v] e (0, 0)) := heap_setCell_same w gc 2 _ e v hb
theorem cur_set1 {w : World} {gc : Nat} {v0 v1 v2 v : Value} {e : TypeId} (hb : w.heap[gc]? = some (.cells #[v0, v1, v2] e (0, 0))) : (w.setCell ⟨gc, 1, none⟩ v).heap[gc]? = some (.cells #[v0, v, v2] e (0, 0)) := heap_setCell_same w gc 1 _ e v hb
theorem gr_set (w : World) (gc j : Nat) (v : Value) : w.grownBy (w.setCell ⟨gc, j, none⟩ v) (some gc) :=
  ⟨rfl, rfl, rfl, by simp [World.setCell], fun k _ hk => heap_setCell_other w ⟨gc, j, none⟩ k v (fun e => hk (by simp [e]))⟩
theorem gr_drewN {w w' : World} {r : Option Nat} (h : w.grownBy w' r) (n : Nat) : w.grownBy (w'.drewN n) r := ⟨h.os, h.tape, h.output, h.size, h.block⟩
set_option maxHeartbeats 800000 in
theorem l1Byte_any (gc n cap : Nat) (a : Option Addr) (zs : List Int) (w : World) (hn : zs.length = n) (hs : n ≤ 4000000) (hc : Cur w gc a n cap) (hr : Rd w a zs) (hby : Byt zs) (hne : zs ≠ [] → ∀ b off, a = some ⟨b, off, none⟩ → b ≠ gc) :
    Calls Tryz.prog 92 #[.pointer (some ⟨gc, 0, none⟩)] w fun e w' => ∃ x : Nat, e = .returned (.int .i64 x) ∧ x ≤ 255 ∧ Cur w' gc a n cap ∧ w.grownBy w' (some gc) := by
  obtain ⟨i, h, hi, hb⟩ := hc
  have c0 : w.cell? ⟨gc, 0, none⟩ = some (.slice a n cap) := by rw [cell_of_row w gc 0 _ 118 (0, 0) hb]; rfl
  have c1 : w.cell? ⟨gc, 1, none⟩ = some (.int .i64 i) := by rw [cell_of_row w gc 1 _ 118 (0, 0) hb]; rfl
  have c2 : w.cell? ⟨gc, 2, none⟩ = some (.int .i64 h) := by rw [cell_of_row w gc 2 _ 118 (0, 0) hb]; rfl
  have f1 := frozen_of_row w gc 1 _ 118 hb
  have f2 := frozen_of_row w gc 2 _ 118 hb
  have h255 := i64_and255
  have HB : Hid (w.heap[gc]? = some (.cells #[.slice a n cap, .int .i64 i, .int .i64 h] 118 (0, 0))) := hb
  clear hb
  by_cases hin : i < n
  · have hin' : (i : Int) < (n : Int) := by omega
    obtain ⟨b, off, rfl, hlt, hcl⟩ := hr.lt (by intro h; subst h; simp at hn; omega)
    have hcx := hcl i (by omega)
    obtain ⟨Z, hZ, hZ1⟩ := byt_at hby i
    rw [hZ] at hcx
    have hbn := hne (by intro h; subst h; simp at hn; omega) b off rfl
    clear hZ hn hr hne hcl
    go_enter Tryz.func92, Tryz.ntmps92
    go_wp2
    go_quiet (fail)
    go_wp2
    go_quiet (fail)
    go_wp2
    go_quiet (fail)
    go_wp2
    go_ret
    refine ⟨_, ret_int (Int.toNat_of_nonneg (Int.emod_nonneg _ (by omega))).symm, by omega, ?_, ?_⟩
    · exact ⟨i + 1, _, by omega, cur_set1 (cur_set2 HB.out)⟩
    · exact gr_drewN ((gr_set w gc 2 _).trans (gr_set _ gc 1 _)) _
  · have hin' : ¬ (i : Int) < (n : Int) := by omega
    go_enter Tryz.func92, Tryz.ntmps92
    go_wp2
    go_quiet (fail)
    go_wp2
    go_quiet (fail)
    go_wp2
    go_ret
    refine ⟨_, ret_int (Int.toNat_of_nonneg (Int.emod_nonneg _ (by omega))).symm, by omega, ?_, ?_⟩
    · exact ⟨i, _, hi, cur_set2 HB.out⟩
    · exact gr_drewN (gr_drewN (gr_set w gc 2 _) _) _
theorem Rd.kept {w w' : World} {a : Option Addr} {zs : List Int} {g : Nat} (h : Rd w a zs) (hg : w.grownBy w' (some g)) (hne : zs ≠ [] → ∀ b off, a = some ⟨b, off, none⟩ → b ≠ g) : Rd w' a zs := by
  by_cases hz : zs = []
  · exact .inl hz
  · obtain ⟨b, off, rfl, hlt, hc⟩ := h.lt hz
    refine .inr ⟨b, off, rfl, fun i hi => ?_⟩
    have := hne hz b off rfl
    exact hg.cell (hc i hi) (by simpa using this)
/-- What a step of the cursor needs: the cursor, and the bytes that it reads, apart from it. -/
structure Src (w : World) (gc n cap : Nat) (a : Option Addr) (zs : List Int) : Prop where
  len : zs.length = n
  small : n ≤ 1048576
  cur : Cur w gc a n cap
  rd : Rd w a zs
  byt : Byt zs
  ne : zs ≠ [] → ∀ b off, a = some ⟨b, off, none⟩ → b < gc
theorem Src.step {w w' : World} {gc n cap : Nat} {a : Option Addr} {zs : List Int} (h : Src w gc n cap a zs) (hc : Cur w' gc a n cap) (hg : w.grownBy w' (some gc)) : Src w' gc n cap a zs :=
  ⟨h.len, h.small, hc, h.rd.kept hg (fun hz b off e => Nat.ne_of_lt (h.ne hz b off e)), h.byt, h.ne⟩
theorem Src.keep {w w' : World} {gc n cap : Nat} {a : Option Addr} {zs : List Int} (h : Src w gc n cap a zs) (hb : Below w.heap.size w w') : Src w' gc n cap a zs :=
  ⟨h.len, h.small, h.cur.keep hb h.cur.lt, h.rd.keep hb, h.byt, h.ne⟩
theorem byte_step (gc n cap : Nat) (a : Option Addr) (zs : List Int) (w : World) (h : Src w gc n cap a zs) :
    Calls Tryz.prog 92 #[.pointer (some ⟨gc, 0, none⟩)] w fun e w' => ∃ x : Nat, e = .returned (.int .i64 x) ∧ x ≤ 255 ∧ Src w' gc n cap a zs ∧ w.grownBy w' (some gc) :=
  (l1Byte_any gc n cap a zs w h.len (by have := h.small; omega) h.cur h.rd h.byt (fun hz b off e => Nat.ne_of_lt (h.ne hz b off e))).mono fun _ _ ⟨x, he, hx, hc, hg⟩ => ⟨x, he, hx, h.step hc hg, hg⟩
set_option maxHeartbeats 800000 in
theorem below_step (gc n cap : Nat) (a : Option Addr) (zs : List Int) (m : Nat) (w : World) (h : Src w gc n cap a zs) (hm : 1 ≤ m) (hm2 : m ≤ 10000000) :
    Calls Tryz.prog 43 #[.pointer (some ⟨gc, 0, none⟩), .int .i64 m] w fun e w' => ∃ x : Nat, e = .returned (.int .i64 x) ∧ x < m ∧ Src w' gc n cap a zs ∧ w.grownBy w' (some gc) := by
  have h1 : ¬ (m : Int) ≤ 0 := by omega
  by_cases h2 : m ≤ 256
  · have h2' : (m : Int) ≤ 256 := by omega
    go_enter Tryz.func43, Tryz.ntmps43
    go_wp2_with fail
    refine (byte_step gc n cap a zs w h).mono ?_
    rintro e w1 ⟨x, rfl, hx, hs1, hg1⟩
    go_wp2
    go_ret
    exact ⟨x % m, ret_int (by omega), Nat.mod_lt _ (by omega), hs1, hg1⟩
  · have h2' : ¬ (m : Int) ≤ 256 := by omega
    go_enter Tryz.func43, Tryz.ntmps43
    go_wp2_with fail
    refine (byte_step gc n cap a zs w h).mono ?_
    rintro e w1 ⟨x, rfl, hx, hs1, hg1⟩
    go_wp2_with fail
    refine (byte_step gc n cap a zs w1 hs1).mono ?_
    rintro e w2 ⟨y, rfl, hy, hs2, hg2⟩
    go_wp2_with fail
    refine (byte_step gc n cap a zs w2 hs2).mono ?_
    rintro e w3 ⟨z, rfl, hz, hs3, hg3⟩
    go_wp2
    go_ret
    exact ⟨(x * 65536 + y * 256 + z) % m, ret_int (by simp), Nat.mod_lt _ (by omega), hs3, (hg1.trans hg2).trans hg3⟩
set_option maxHeartbeats 800000 in
theorem int_step (gc n cap : Nat) (a : Option Addr) (zs : List Int) (gl L : Nat) (vs : List Int) (w : World) (h : Src w gc n cap a zs) (hL : vs.length = L) (hL1 : 1 ≤ L) (hL2 : L ≤ 256) (hne : gl ≠ gc)
    (hv : ∀ j, j < L → w.cell? ⟨gl, j, none⟩ = some (.int .i64 (vs.getD j 0))) :
    Calls Tryz.prog 65 #[.pointer (some ⟨gc, 0, none⟩), .slice (some ⟨gl, 0, none⟩) L L] w fun e w' => ∃ k : Nat, e = .returned (.int .i64 (vs.getD k 0)) ∧ k < L ∧ Src w' gc n cap a zs ∧ w.grownBy w' (some gc) := by
  have hL' : Hid (vs.length = L) := hL
  clear hL
  go_enter Tryz.func65, Tryz.ntmps65
  go_wp2_with fail
  refine (below_step gc n cap a zs L w h hL1 (by omega)).mono ?_
  rintro e w1 ⟨x, rfl, hx, hs1, hg1⟩
  have hcx := hg1.cell (hv x hx) (by simpa using hne)
  have hx1 : (x : Int) < (L : Int) := by omega
  go_wp2
  go_ret
  exact ⟨x, by simp, hx, hs1, hg1⟩
theorem Byt.snoc {ys : List Int} {x : Nat} (h : Byt ys) (hx : x ≤ 255) : Byt (ys ++ [(x : Int)]) := by
  intro z hz
  simp only [List.mem_append, List.mem_cons, List.not_mem_nil, or_false] at hz
  rcases hz with hz | hz
  · exact h z hz
  · omega
theorem gr_mono {w wr w' : World} {g0 g : Nat} (h : w.grownBy wr (some g0)) (hg : g = g0 ∨ w.heap.size ≤ g) (k : wr.grownBy w' (some g)) : w.grownBy w' (some g0) := by
  refine ⟨k.os.trans h.os, k.tape.trans h.tape, k.output.trans h.output, Nat.le_trans h.size k.size, fun i hi hne => ?_⟩
  rw [k.block i (by have := h.size; omega) (by intro e; simp at e; rcases hg with hg | hg <;> (try subst hg) <;> first | omega | exact hne (by rw [e])), h.block i hi hne]
theorem Src.alloc {w : World} {gc n cap : Nat} {a : Option Addr} {zs : List Int} (h : Src w gc n cap a zs) (o : Obj) : Src (w.alloc o) gc n cap a zs := h.keep ((Below.refl _ _).alloc (Nat.le_refl _) o)
theorem Src.other {w w' : World} {gc n cap g : Nat} {a : Option Addr} {zs : List Int} (h : Src w gc n cap a zs) (hg : w.grownBy w' (some g)) (h1 : gc < g) : Src w' gc n cap a zs :=
  ⟨h.len, h.small, h.cur.kept hg (Nat.ne_of_lt h1), h.rd.kept hg (fun hz b off e => Nat.ne_of_lt (Nat.lt_trans (h.ne hz b off e) h1)), h.byt, h.ne⟩
theorem Src.drew {w : World} {gc n cap : Nat} {a : Option Addr} {zs : List Int} (h : Src w gc n cap a zs) : Src w.drew gc n cap a zs := h.keep (Below.refl _ _).drew
set_option maxHeartbeats 800000 in
theorem bytes_step (gc n cap : Nat) (a : Option Addr) (zs : List Int) (m : Nat) (w : World) (h : Src w gc n cap a zs) (hm : m ≤ 1000000) :
    Calls Tryz.prog 93 #[.pointer (some ⟨gc, 0, none⟩), .int .i64 m] w fun e w' => ∃ (g c : Nat) (ys : List Int), e = .returned (.slice (some ⟨g, 0, none⟩) m c) ∧ w.heap.size ≤ g ∧ Byt ys ∧ Own w' g m c ys ∧ Src w' gc n cap a zs ∧ w.grownBy w' (some gc) := by
  have hgc := h.cur.lt
  go_enter Tryz.func93, Tryz.ntmps93
  go_wp2
  go_loopw [5, 6] (fun v i wr => ∃ (k g c : Nat) (ys : List Int), k ≤ m ∧ i = .int .i64 k ∧ v = .slice (some ⟨g, 0, none⟩) k c ∧ w.heap.size ≤ g ∧ Byt ys ∧ Own wr g k c ys ∧ Src wr gc n cap a zs ∧ w.grownBy wr (some gc)) (fun _ i _ => m - (intOf i).toNat)
  case atStart => exact ⟨0, w.heap.size, 0, [], Nat.zero_le _, rfl, rfl, Nat.le_refl _, by intro z hz; simp at hz, own_empty w, h.alloc _, World.grownBy_alloc w _ _⟩
  case round =>
    obtain ⟨k, g, c, ys, hk, rfl, rfl, hg, hby, ho, hs1, hgr⟩ := hrel
    by_cases hkm : k < m
    · go_wp2_with fail
      refine (byte_step gc n cap a zs wr hs1).mono ?_
      rintro e w1 ⟨x, rfl, hx, hs2, hg2⟩
      have ho2 := ho.kept hg2 (by omega)
      have hgr2 := hgr.trans hg2
      clear ho hs1 hgr hg2
      go_wp2_with (at_builtin; refine wpList_app _ rfl (.tmp 13) (.tmp 17) rfl g k c ys rfl (World.ownsRow.alloc ho2 _) ⟨w1.heap.size, 0, none⟩ 1 1 [(x : Int)] rfl rfl (one_news w1 _) (by omega) (w1.heap.size + 1) (by simp) ?_; intro g3 c3 w3 ho3 hg3 ha3)
      go_roundw
      case rel =>
        have hsz := hgr2.size
        exact ⟨k + 1, g3, c3, ys ++ [(x : Int)], by omega, by go_num, rfl, by omega, hby.snoc hx, ho3, (hs2.alloc _).other hg3 (by omega), gr_mono (gr_mono hgr2 (.inl rfl) (World.grownBy_alloc w1 _ _)) (.inr hg) hg3⟩
      case measure => simp [intOf]; omega
    · go_wp2
      go_ret
      obtain rfl : k = m := by omega
      exact ⟨g, c, ys, rfl, hg, hby, ho, hs1, hgr⟩
theorem Rd.at {w : World} {a : Option Addr} {zs : List Int} (h : Rd w a zs) : zs ≠ [] → ∀ b off, a = some ⟨b, off, none⟩ → b < w.heap.size := by
  intro hz b off e
  obtain ⟨b', off', e', hlt, _⟩ := h.lt hz
  rw [e] at e'
  simp at e'
  omega
set_option maxHeartbeats 800000 in
theorem new_step (a : Option Addr) (n cap : Nat) (zs : List Int) (w : World) (hn : zs.length = n) (hs : n ≤ 1048576) (hr : Rd w a zs) (hb : Byt zs) :
    Calls Tryz.prog 40 #[.slice a n cap] w fun e w' => e = .returned (.pointer (some ⟨w.heap.size, 0, none⟩)) ∧ Src w' w.heap.size n cap a zs ∧ Below w.heap.size w w' := by
  have hlt := hr.at
  have hn' : Hid (zs.length = n) := hn
  clear hn
  have hcx : ∀ k, k < n → ∃ b off, ∃ Z : Nat, a = some ⟨b, off, none⟩ ∧ w.cell? ⟨b, off + k, none⟩ = some (.int .u8 Z) := by
    intro k hk
    obtain ⟨b, off, e, _, hc⟩ := hr.lt (by intro h; have := hn'.out; subst h; simp at this; omega)
    obtain ⟨Z, hZ, _⟩ := byt_at hb k
    exact ⟨b, off, Z, e, by rw [hc k (by rw [hn'.out]; exact hk), hZ]⟩
  have fin : ∀ h : Int, Src (w.alloc (.cells #[.slice a n cap, .int .i64 0, .int .i64 h] 118)) w.heap.size n cap a zs ∧ Below w.heap.size w (w.alloc (.cells #[.slice a n cap, .int .i64 0, .int .i64 h] 118)) := by
    intro h
    have hB := (Below.refl w.heap.size w).alloc (Nat.le_refl _) (.cells #[.slice a n cap, .int .i64 0, .int .i64 h] 118)
    exact ⟨⟨hn'.out, hs, ⟨0, h, Nat.zero_le _, heap_alloc_new w _⟩, hr.keep hB, hb, fun hz b off e => by have := hlt hz b off e; omega⟩, hB⟩
  have Fin := fin
  by_cases h0 : n = 0
  · subst h0
    go_enter Tryz.func40, Tryz.ntmps40
    go_wp2
    refine wp_loop_rounds 1 ?_; rw [rounds_succ]
    go_wp2
    go_ret
    exact ⟨rfl, fin _⟩
  · obtain ⟨b, off, _, rfl, _⟩ := hcx 0 (by omega)
    have hcy : ∀ k, k < n → ∃ Z : Nat, w.cell? ⟨b, off + k, none⟩ = some (.int .u8 Z) := by
      intro k hk
      obtain ⟨b', off', Z, e, hc⟩ := hcx k hk
      simp only [Option.some.injEq, Addr.mk.injEq, and_true] at e
      obtain ⟨rfl, rfl⟩ := e
      exact ⟨Z, hc⟩
    have HC : Hid (∀ k, k < n → ∃ Z : Nat, w.cell? ⟨b, off + k, none⟩ = some (.int .u8 Z)) := hcy
    have HF : Hid (∀ h : Int, Src (w.alloc (.cells #[.slice (some ⟨b, off, none⟩) n cap, .int .i64 0, .int .i64 h] 118)) w.heap.size n cap (some ⟨b, off, none⟩) zs ∧ Below w.heap.size w (w.alloc (.cells #[.slice (some ⟨b, off, none⟩) n cap, .int .i64 0, .int .i64 h] 118))) := fin
    clear hcx hcy fin Fin hlt
    go_enter Tryz.func40, Tryz.ntmps40
    go_wp2
    go_loop [3, 4] (fun x i => ∃ (k : Nat) (h : Int), k ≤ n ∧ i = .int .i64 k ∧ x = .int .i64 h) (fun _ i => n - (intOf i).toNat)
    case atStart => exact ⟨0, _, Nat.zero_le _, rfl, rfl⟩
    case round =>
      obtain ⟨k, h, hk, rfl, rfl⟩ := hrel
      by_cases hkn : k < n
      · have hkn' : (k : Int) < (n : Int) := by omega
        by_cases hk4 : k < 4000
        · have hk4' : (k : Int) < 4000 := by omega
          obtain ⟨Z, hcx⟩ := HC.out k hkn
          go_wp2
          go_round
          case rel => exact ⟨k + 1, _, by omega, by go_num, rfl⟩
          case measure => simp [intOf]; omega
        · have hk4' : ¬ (k : Int) < 4000 := by omega
          go_wp2
          go_ret
          exact ⟨rfl, HF.out _⟩
      · have hkn' : ¬ (k : Int) < (n : Int) := by omega
        go_wp2
        go_ret
        exact ⟨rfl, HF.out _⟩
theorem ints_cells (w : World) (vs : List Int) (t : TypeId) : ∀ j, j < vs.length → (w.alloc (.cells (vs.map (Value.int .i64)).toArray t)).cell? ⟨w.heap.size, j, none⟩ = some (.int .i64 (vs.getD j 0)) := by
  intro j hj
  rw [cell_of_row _ w.heap.size j _ t (0, 0) (heap_alloc_new w _)]
  simp [hj]
set_option maxHeartbeats 800000 in
theorem some_step (gc n cap : Nat) (a : Option Addr) (zs : List Int) (w : World) (h : Src w gc n cap a zs) :
    Calls Tryz.prog 45 #[.pointer (some ⟨gc, 0, none⟩)] w fun e w' => ∃ (g m c : Nat) (ys : List Int), e = .returned (.slice (some ⟨g, 0, none⟩) m c) ∧ m ≤ 9 ∧ w.heap.size ≤ g ∧ Byt ys ∧ Own w' g m c ys ∧ Src w' gc n cap a zs ∧ w.grownBy w' (some gc) := by
  have hgc := h.cur.lt
  have hcells := ints_cells w [0, 1, 2, 5, 9] 3
  have hcl : Hid (∀ j, j < 5 → (w.alloc (.cells #[.int .i64 0, .int .i64 1, .int .i64 2, .int .i64 5, .int .i64 9] 3)).cell? ⟨w.heap.size, j, none⟩ = some (.int .i64 (([0, 1, 2, 5, 9] : List Int).getD j 0))) := hcells
  clear hcells
  go_enter Tryz.func45, Tryz.ntmps45
  go_wp2_with fail
  refine (int_step gc n cap a zs w.heap.size 5 [0, 1, 2, 5, 9] _ (h.alloc _) rfl (by omega) (by omega) (by omega) hcl.out).mono ?_
  rintro e w1 ⟨k, rfl, hk, hs1, hg1⟩
  obtain ⟨m, hm, hm9⟩ : ∃ m : Nat, ([0, 1, 2, 5, 9] : List Int).getD k 0 = (m : Int) ∧ m ≤ 9 := by
    rcases (show k = 0 ∨ k = 1 ∨ k = 2 ∨ k = 3 ∨ k = 4 by omega) with rfl | rfl | rfl | rfl | rfl
    · exact ⟨0, rfl, by omega⟩
    · exact ⟨1, rfl, by omega⟩
    · exact ⟨2, rfl, by omega⟩
    · exact ⟨5, rfl, by omega⟩
    · exact ⟨9, rfl, by omega⟩
  rw [hm]
  clear hm
  go_wp2_with fail
  have hsz := hg1.size
  simp only [World.size_alloc] at hsz
  refine (bytes_step gc n cap a zs m _ hs1 (by omega)).mono ?_
  rintro e w2 ⟨g, c, ys, rfl, hg, hby, ho, hs2, hg2⟩
  go_wp2
  go_ret
  exact ⟨g, m, c, ys, rfl, hm9, by omega, hby, ho, hs2, (gr_mono (World.grownBy_alloc w _ _) (.inl rfl) hg1).trans hg2⟩
end

section
open Go.RowKit
set_option maxHeartbeats 400000 in
theorem once_step (gc n cap : Nat) (a : Option Addr) (zs : List Int) (m : Nat) (w : World) (h : Src w gc n cap a zs) (hm : 1 ≤ m) (hm2 : m ≤ 10000000) :
    Calls Tryz.prog 42 #[.pointer (some ⟨gc, 0, none⟩), .int .i64 m] w fun e w' => ∃ B : Bool, e = .returned (.bool B) ∧ Src w' gc n cap a zs ∧ w.grownBy w' (some gc) := by
  go_enter Tryz.func42, Tryz.ntmps42
  go_wp2_with fail
  refine (below_step gc n cap a zs m w h hm hm2).mono ?_
  rintro e w1 ⟨x, rfl, hx, hs1, hg1⟩
  go_wp2
  go_ret
  exact ⟨_, rfl, hs1, hg1⟩
end

section
open Go.RowKit
theorem Src.own {w w' : World} {gc n cap : Nat} {a : Option Addr} {zs : List Int} {r : Option Nat} (h : Src w gc n cap a zs) (hg : w.grownBy w' r) (hr : ∀ g, r = some g → gc < g) : Src w' gc n cap a zs := by
  cases r with
  | none => exact h.keep ⟨hg.os, hg.tape, hg.output, hg.size, fun k hk => hg.block k hk (by simp)⟩
  | some g => exact h.other hg (hr g rfl)
section
variable {w W W' : World} {gc sn scap : Nat} {sa : Option Addr} {zs : List Int} {X N : Nat} {nm xs : Array Value} {v1 : Value} {dz : List Int} {v2 : Value} {es : List (ByteArray × Int)} {v3 : Value} {ats : List (ByteArray × ByteArray)}
end
/-! ### when what was drawn is right -/
end
end Go.Proofs.YtoeeblmnogeonaaGreatDoor
