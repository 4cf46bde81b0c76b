/-
  The laws' marks in rows of texts: markText, markStringS, heldStringS; and eqStringS, sameTexts, toStringS, szStringS.
-/
import Derived.Test.YtgdloohafkanhaaSplitS
import Derived.Deep.RegionWith
import Derived.Laws.IdiomStrings
namespace Go.Proofs.Ytgdloohafkanhaa
open Go.RowKit

/-- The digits of a number ahead of what is there, fuel f. -/
def mtL : Nat → Nat → Str → Str
  | 0, _, acc => acc
  | f + 1, k, acc => if k = 0 then acc else mtL f (k / 10) ((48 + k % 10).toUInt8 :: acc)
/-- The mark of a number. -/
def mt (k : Nat) : ByteArray := ⟨(109 :: mtL 7 k []).toArray⟩

theorem mtL_zero (f : Nat) (acc : Str) : mtL f 0 acc = acc := by cases f <;> simp [mtL]
theorem mtL_step {f k : Nat} (acc : Str) (h : k ≠ 0) : mtL (f + 1) k acc = mtL f (k / 10) ((48 + k % 10).toUInt8 :: acc) := by
  conv => lhs; unfold mtL
  rw [if_neg h]

theorem app_mk (a b : Str) : (⟨a.toArray⟩ : ByteArray) ++ ⟨b.toArray⟩ = ⟨(a ++ b).toArray⟩ := by
  apply ByteArray.ext
  simp [ByteArray.data_append]

theorem conv_digit (w : World) (m : Nat) : (convert 22 9 (.slice (some ⟨w.heap.size, 0, none⟩) 1 1)).run Try.prog (w.alloc (.cells #[.int .u8 (48 + (m : Int) % 10)] 5)) = .ok (.string ⟨#[(48 + m % 10).toUInt8]⟩) (w.alloc (.cells #[.int .u8 (48 + (m : Int) % 10)] 5)) := by
  refine run_convert_bytes_back _ 22 9 5 ⟨w.heap.size, 0, none⟩ 1 [(48 + m % 10).toUInt8] Try.underlying22 Try.underlying5 Try.underlying9 ?_
  intro j hj
  obtain rfl : j = 0 := by simpa using hj
  have hd : (((48 + m % 10).toUInt8.toNat : Nat) : Int) = 48 + (m : Int) % 10 := by
    have : (48 + m % 10).toUInt8.toNat = 48 + m % 10 := by
      simp only [Nat.toUInt8_eq, UInt8.toNat_ofNat']
      omega
    rw [this]; omega
  simp only [List.getElem_cons_zero, hd]
  exact cell_one_new w (.int .u8 (48 + (m : Int) % 10)) 5 0 _ rfl

set_option maxHeartbeats 1000000 in
set_option maxRecDepth 100000 in
theorem markText_any (k : Nat) (w : World) (hk : k ≤ 1000000) (h1 : 1 ≤ k) :
    Calls Try.prog 44 #[.int .i64 k] w fun e w' => e = .returned (.string (mt k)) ∧ Below w.heap.size w w' := by
  have hk1 : ¬ (k : Int) ≤ 0 := by omega
  go_enter Try.func44, Try.ntmps44
  go_wp2
  go_loopw [0, 3] (fun i v wr => ∃ (m f : Nat) (acc : Str), i = .int .i64 m ∧ m ≤ k ∧ v = .string ⟨acc.toArray⟩ ∧ m < 10 ^ f ∧ acc.length + f ≤ 7 ∧ Below w.heap.size w wr ∧ Hid (mtL 7 k [] = mtL f m acc)) (fun i _ _ => (intOf i).toNat)
  case atStart => exact ⟨k, 7, [], rfl, Nat.le_refl _, rfl, by omega, by simp, Below.refl _ _, rfl⟩
  case round =>
    obtain ⟨m, f, acc, rfl, hm, rfl, hf, hl, hB, he⟩ := hrel
    by_cases hm0 : m = 0
    · subst hm0
      have he' : Hid (mt k = ⟨(109 :: acc).toArray⟩) := by show _ = _; unfold mt; rw [he.out, mtL_zero]
      go_wp2
      go_ret
      refine ⟨?_, hB⟩
      rw [he'.out]
      show Ending.returned (.string (⟨#[109]⟩ ++ ⟨List.toArray acc⟩)) = _
      rw [app_mk]
      rfl
    · have hm1 : (0 : Int) < (m : Int) := by omega
      obtain ⟨f', rfl⟩ : ∃ f', f = f' + 1 := by
        cases f with
        | zero => simp at hf; omega
        | succ f' => exact ⟨f', rfl⟩
      have hcv := conv_digit wr m
      have he0 := mtL_step (f := f') acc hm0
      obtain ⟨d, hd⟩ : ∃ d, (48 + m % 10).toUInt8 = d := ⟨_, rfl⟩
      rw [hd] at hcv he0
      have he' : Hid (mtL 7 k [] = mtL f' (m / 10) (d :: acc)) := by show _ = _; rw [he.out, he0]
      have happ := app_mk [d] acc
      clear he hd he0
      go_wp2
      go_roundw
      case rel => exact ⟨m / 10, f', d :: acc, by go_num, by omega, by first | rfl | exact congrArg Value.string happ, Nat.div_lt_of_lt_mul (by rw [Nat.pow_succ] at hf; omega), by simp only [List.length_cons]; omega, hB.trans ((Below.refl _ wr).alloc hB.size _), he'⟩
      case measure => simp [intOf]; omega

theorem gr_of_below {w w' : World} (h : Below w.heap.size w w') (r : Option Nat) : w.grownBy w' r := ⟨h.os, h.tape, h.output, h.size, fun k hk _ => h.block k hk⟩

/-- The texts behind k rounds of marking. -/
def mksS (zs : List ByteArray) (k : Nat) : List ByteArray := (List.range k).map (fun i => mt (i + 1)) ++ zs.drop k
theorem mksS_zero (zs : List ByteArray) : mksS zs 0 = zs := by simp [mksS]
theorem mksS_set (zs : List ByteArray) (k : Nat) (h : k < zs.length) : (mksS zs k).set k (mt (k + 1)) = mksS zs (k + 1) := by
  unfold mksS
  rw [List.set_append_right _ _ (by simp)]
  have e : k - ((List.range k).map (fun i => mt (i + 1))).length = 0 := by simp
  rw [e, List.drop_eq_getElem_cons h, List.set_cons_zero, List.range_succ, List.map_append, List.append_assoc]
  rfl
/-- What a row of n texts holds when it is marked from 1 on. -/
def marksS (n : Nat) : List ByteArray := (List.range n).map (fun i => mt (i + 1))
theorem mksS_all (zs : List ByteArray) : mksS zs zs.length = marksS zs.length := by simp [mksS, marksS]

theorem ownS_stored {w : World} {g n cap : Nat} {zs : List ByteArray} (h : OwnS w g n cap zs) (k : Nat) (z : ByteArray) : OwnS (w.setCell ⟨g, k, none⟩ (.string z)) g n cap (zs.set k z) := by
  have := (World.ownsRow.stored h k (.string z)).1
  unfold OwnS
  rw [List.map_set]
  exact this

set_option maxHeartbeats 400000 in
theorem mark0 (a : Option Addr) (c : Nat) (w : World) :
    Calls Try.prog 28 #[.slice a 0 c, .int .i64 1] w fun e w' => e = .returned (.int .i64 1) ∧ w' = w := by
  go_enter Try.func28, Try.ntmps28
  go_wp2
  refine wp_loop_rounds 1 ?_; rw [rounds_succ]
  go_wp2
  go_ret
  exact ⟨rfl, rfl⟩

set_option maxHeartbeats 400000 in
theorem held0 (a : Option Addr) (c : Nat) (w : World) :
    Calls Try.prog 29 #[.slice a 0 c, .int .i64 1] w fun e w' => e = .returned (.int .i64 1) ∧ w' = w := by
  go_enter Try.func29, Try.ntmps29
  go_wp2
  refine wp_loop_rounds 1 ?_; rw [rounds_succ]
  go_wp2
  go_ret
  exact ⟨rfl, rfl⟩

set_option maxHeartbeats 800000 in
theorem markS_any (g n c : Nat) (zs : List ByteArray) (w : World) (hs : n ≤ 100000) (hown : OwnS w g n c zs) :
    Calls Try.prog 28 #[.slice (some ⟨g, 0, none⟩) n c, .int .i64 1] w fun e w' => e = .returned (.int .i64 ((n : Int) + 1)) ∧ OwnS w' g n c (marksS n) ∧ w.grownBy w' (some g) := by
  have hn' : Hid (zs.length = n) := hown.len
  go_enter Try.func28, Try.ntmps28
  go_wp2
  go_loopw [1, 5] (fun q i wr => ∃ k : Nat, k ≤ n ∧ i = .int .i64 k ∧ q = .int .i64 ((k + 1 : Nat) : Int) ∧ OwnS wr g n c (mksS zs k) ∧ w.grownBy wr (some g)) (fun _ i _ => n - (intOf i).toNat)
  case atStart => exact ⟨0, Nat.zero_le _, rfl, rfl, by rw [mksS_zero]; exact hown, gr_refl w _⟩
  case round =>
    obtain ⟨k, hk, rfl, rfl, ho, hgr⟩ := hrel
    obtain ⟨q, hq⟩ : ∃ q, k + 1 = q := ⟨_, rfl⟩
    rw [hq]
    by_cases hkn : k < n
    · have hki : (k : Int) < (n : Int) := by omega
      go_wp2_with fail
      refine (markText_any q _ (by omega) (by omega)).mono ?_
      rintro e w1 ⟨rfl, hb1⟩
      have ho1 := ho.keep hb1
      have hcy := World.ownsRow.cellAt ho1 k (by omega)
      have hfy := World.ownsRow.frozenAt ho1 k
      have hly : k < (mksS zs k).length := by rw [ho.len]; exact hkn
      simp only [List.getElem?_map, List.getElem?_eq_getElem hly, Option.map_some] at hcy
      have hst := ownS_stored ho1 k (mt (k + 1))
      rw [mksS_set zs k (by rw [hn'.out]; exact hkn), hq] at hst
      have hgr' : w.grownBy (w1.setCell ⟨g, k, none⟩ (.string (mt q))) (some g) := (hgr.trans (gr_of_below hb1 _)).trans (World.ownsRow.stored ho1 k (.string (mt q))).2
      obtain ⟨T, hT⟩ : ∃ T, mt q = T := ⟨_, rfl⟩
      rw [hT] at hst hgr' ⊢
      clear ho hgr ho1 hb1 hT
      go_wp2
      go_roundw
      case rel => exact ⟨k + 1, by omega, by go_num, by rw [hq]; go_num, by rw [hq]; exact hst, hgr'⟩
      case measure => simp [intOf]; omega
    · have hki : ¬ (k : Int) < (n : Int) := by omega
      go_wp2
      go_ret
      obtain rfl : k = n := by omega
      refine ⟨by rw [← hq]; rfl, ?_, hgr⟩
      have := hn'.out
      rw [← this, mksS_all, this] at ho
      exact ho

set_option maxHeartbeats 800000 in
theorem heldS_any (g n c : Nat) (w : World) (hs : n ≤ 100000) (hown : OwnS w g n c (marksS n)) :
    Calls Try.prog 29 #[.slice (some ⟨g, 0, none⟩) n c, .int .i64 1] w fun e w' => e = .returned (.int .i64 ((n : Int) + 1)) ∧ Below w.heap.size w w' := by
  have hlen : Hid ((marksS n).length = n) := hown.len
  go_enter Try.func29, Try.ntmps29
  go_wp2
  go_loopw [1, 5] (fun q i wr => ∃ k : Nat, k ≤ n ∧ i = .int .i64 k ∧ q = .int .i64 ((k + 1 : Nat) : Int) ∧ Below w.heap.size w wr) (fun _ i _ => n - (intOf i).toNat)
  case atStart => exact ⟨0, Nat.zero_le _, rfl, rfl, Below.refl _ _⟩
  case round =>
    obtain ⟨k, hk, rfl, rfl, hB⟩ := hrel
    obtain ⟨q, hq⟩ : ∃ q, k + 1 = q := ⟨_, rfl⟩
    rw [hq]
    by_cases hkn : k < n
    · have hki : (k : Int) < (n : Int) := by omega
      have hcy := World.ownsRow.cellAt (hown.keep hB) k (by omega)
      have hly : k < (marksS n).length := by rw [hlen.out]; exact hkn
      have hmk : (marksS n)[k] = mt q := by simp [marksS, hq]
      simp only [List.getElem?_map, List.getElem?_eq_getElem hly, Option.map_some, hmk] at hcy
      obtain ⟨T, hT⟩ : ∃ T, mt q = T := ⟨_, rfl⟩
      rw [hT] at hcy
      have hmx : Try.prog.follows .mixedOrders = true := by kernel_rfl
      have hwz := hB.size
      have hlt := hown.lt
      have hmt : ∀ W : World, Below w.heap.size w W → Calls Try.prog 44 #[.int .i64 q] W fun e w' => e = .returned (.string T) ∧ Below W.heap.size W w' ∧ w'.cell? ⟨g, k, none⟩ = some (.string T) := by
        intro W hW
        refine (markText_any q W (by omega) (by omega)).mono ?_
        rintro e w' ⟨rfl, hb⟩
        refine ⟨by rw [hT], hb, ?_⟩
        have h1 := World.ownsRow.cellAt ((hown.keep hW).keep hb) k (by omega)
        simpa [List.getElem?_eq_getElem hly, hmk, hT] using h1
      clear hmk hT hly
      go_wp2
      go_region_with (go_at_call 44; refine (hmt _ (by first | exact hB | exact hB.drew)).mono ?_; rintro e w1 ⟨rfl, hb1, hc1⟩)
      all_goals go_wp2
      all_goals go_roundw
      all_goals first
        | (case rel => exact ⟨k + 1, by omega, by go_num, by rw [hq]; go_num, hB.drew.trans (hb1.mono hwz)⟩)
        | (case measure => simp [intOf]; omega)
    · have hki : ¬ (k : Int) < (n : Int) := by omega
      go_wp2
      go_ret
      obtain rfl : k = n := by omega
      exact ⟨by rw [← hq]; rfl, hB⟩
end Go.Proofs.Ytgdloohafkanhaa
