/-
  Rows of texts compared and copied: eqStringS and sameTexts of the laws, slices.Equal, toStringS, szStringS.
-/
import Derived.Test.YtgdloohafkanhaaMarks
namespace Go.Proofs.Ytgdloohafkanhaa
open Go.RowKit

theorem drew_drew (w : World) (d n : Nat) : (w.drewN d).drewN n = w.drewN (d + n) := by simp [World.drewN, Nat.add_assoc]

theorem bytes_ne {z y : ByteArray} (h : z ≠ y) : (z.toList == y.toList) = false := by
  rw [beq_eq_false_iff_ne]
  intro e
  rw [Lib.toList_data, Lib.toList_data] at e
  apply h
  rw [← Lib.mk_data z, ← Lib.mk_data y, e]

theorem list_ne {zs ys : List ByteArray} {k : Nat} (h : zs.getD k ⟨#[]⟩ ≠ ys.getD k ⟨#[]⟩) : zs ≠ ys := by
  rintro rfl; exact h rfl
theorem take_step {zs ys : List ByteArray} {k : Nat} (h1 : k < zs.length) (h2 : k < ys.length) (h : zs.getD k ⟨#[]⟩ = ys.getD k ⟨#[]⟩) (ht : zs.take k = ys.take k) : zs.take (k + 1) = ys.take (k + 1) := by
  rw [List.take_succ_eq_append_getElem h1, List.take_succ_eq_append_getElem h2, ht]
  have e1 : zs.getD k ⟨#[]⟩ = zs[k] := by simp [h1]
  have e2 : ys.getD k ⟨#[]⟩ = ys[k] := by simp [h2]
  rw [← e1, ← e2, h]

set_option maxHeartbeats 800000 in
theorem eqS_same (a a' : Option Addr) (n cap cap' : Nat) (zs : List ByteArray) (w : World) (hn : zs.length = n) (hs : n ≤ 4000000) (hr : RdS w a zs) (hr' : RdS w a' zs) :
    Calls Try.prog 27 #[.slice a n cap, .slice a' n cap'] w fun e w' => e = .returned (.bool true) ∧ ∃ d, w' = w.drewN d := by
  by_cases h0 : n = 0
  · subst h0
    go_enter Try.func27, Try.ntmps27
    go_wp2
    refine wp_loop_rounds 1 ?_; rw [rounds_succ]
    go_wp2
    go_ret
    exact ⟨rfl, 0, rfl⟩
  · obtain ⟨b, off, rfl, hlt, hc⟩ := hr.lt (by intro h; subst h; simp at hn; omega)
    obtain ⟨b', off', rfl, hlt', hc'⟩ := hr'.lt (by intro h; subst h; simp at hn; omega)
    clear hr hr'
    have hn' : Hid (zs.length = n) := hn
    clear hn
    go_enter Try.func27, Try.ntmps27
    go_wp2
    go_loopw [5] (fun i wr => ∃ k d : Nat, k ≤ n ∧ i = .int .i64 k ∧ wr = w.drewN d) (fun i _ => n - (intOf i).toNat)
    case atStart => exact ⟨0, 0, Nat.zero_le _, rfl, rfl⟩
    case round =>
      obtain ⟨k, d, hk, rfl, rfl⟩ := hrel
      by_cases hkn : k < n
      · have hcx := hc k (by rw [hn'.out]; exact hkn)
        have hcy := hc' k (by rw [hn'.out]; exact hkn)
        obtain ⟨z, hz⟩ : ∃ z, zs.getD k ⟨#[]⟩ = z := ⟨_, rfl⟩
        rw [hz] at hcx hcy
        clear hz
        have hki : (k : Int) < (n : Int) := by omega
        go_wp2
        go_quiet (fail)
        go_wp2
        go_roundw
        case rel => exact ⟨k + 1, d + nq, by omega, by go_num, rfl⟩
        case measure => simp [intOf]; omega
      · go_wp2
        go_ret
        exact ⟨rfl, d, rfl⟩

set_option maxHeartbeats 800000 in
theorem sameT_same (a a' : Option Addr) (n cap cap' : Nat) (zs : List ByteArray) (w : World) (hn : zs.length = n) (hs : n ≤ 4000000) (hr : RdS w a zs) (hr' : RdS w a' zs) :
    Calls Try.prog 18 #[.slice a n cap, .slice a' n cap'] w fun e w' => e = .returned (.bool true) ∧ ∃ d, w' = w.drewN d := by
  by_cases h0 : n = 0
  · subst h0
    go_enter Try.func18, Try.ntmps18
    go_wp2
    refine wp_loop_rounds 1 ?_; rw [rounds_succ]
    go_wp2
    go_ret
    exact ⟨rfl, 0, rfl⟩
  · obtain ⟨b, off, rfl, hlt, hc⟩ := hr.lt (by intro h; subst h; simp at hn; omega)
    obtain ⟨b', off', rfl, hlt', hc'⟩ := hr'.lt (by intro h; subst h; simp at hn; omega)
    clear hr hr'
    have hn' : Hid (zs.length = n) := hn
    clear hn
    go_enter Try.func18, Try.ntmps18
    go_wp2
    go_loopw [5] (fun i wr => ∃ k d : Nat, k ≤ n ∧ i = .int .i64 k ∧ wr = w.drewN d) (fun i _ => n - (intOf i).toNat)
    case atStart => exact ⟨0, 0, Nat.zero_le _, rfl, rfl⟩
    case round =>
      obtain ⟨k, d, hk, rfl, rfl⟩ := hrel
      by_cases hkn : k < n
      · have hcx := hc k (by rw [hn'.out]; exact hkn)
        have hcy := hc' k (by rw [hn'.out]; exact hkn)
        obtain ⟨z, hz⟩ : ∃ z, zs.getD k ⟨#[]⟩ = z := ⟨_, rfl⟩
        rw [hz] at hcx hcy
        clear hz
        have hki : (k : Int) < (n : Int) := by omega
        go_wp2
        go_quiet (fail)
        go_wp2
        go_roundw
        case rel => exact ⟨k + 1, d + nq, by omega, by go_num, rfl⟩
        case measure => simp [intOf]; omega
      · go_wp2
        go_ret
        exact ⟨rfl, d, rfl⟩

set_option maxHeartbeats 800000 in
theorem equal_any (a a' : Option Addr) (n cap cap' : Nat) (zs ys : List ByteArray) (w : World) (hn : zs.length = n) (hm : ys.length = n) (hs : n ≤ 4000000) (hr : RdS w a zs) (hr' : RdS w a' ys) :
    Calls Try.prog 42 #[.slice a n cap, .slice a' n cap'] w fun e w' => e = .returned (.bool (decide (zs = ys))) ∧ ∃ d, w' = w.drewN d := by
  by_cases h0 : n = 0
  · subst h0
    obtain rfl : zs = [] := List.length_eq_zero_iff.1 hn
    obtain rfl : ys = [] := List.length_eq_zero_iff.1 hm
    go_enter Try.func42, Try.ntmps42
    go_wp2
    refine wp_loop_rounds 1 ?_; rw [rounds_succ]
    go_wp2
    go_ret
    exact ⟨rfl, 0, rfl⟩
  · obtain ⟨b, off, rfl, hlt, hc⟩ := hr.lt (by intro h; subst h; simp at hn; omega)
    obtain ⟨b', off', rfl, hlt', hc'⟩ := hr'.lt (by intro h; subst h; simp at hm; omega)
    clear hr hr'
    have hn' : Hid (zs.length = n) := hn
    have hm' : Hid (ys.length = n) := hm
    clear hn hm
    go_enter Try.func42, Try.ntmps42
    go_wp2
    go_loopw [13] (fun i wr => ∃ k d : Nat, k ≤ n ∧ i = .int .i64 k ∧ wr = w.drewN d ∧ Hid (zs.take k = ys.take k)) (fun i _ => n - (intOf i).toNat)
    case atStart => exact ⟨0, 0, Nat.zero_le _, rfl, rfl, rfl⟩
    case round =>
      obtain ⟨k, d, hk, rfl, rfl, ht⟩ := hrel
      by_cases hkn : k < n
      · have hcx := hc k (by rw [hn'.out]; exact hkn)
        have hcy := hc' k (by rw [hm'.out]; exact hkn)
        have hst := take_step (zs := zs) (ys := ys) (k := k) (by rw [hn'.out]; exact hkn) (by rw [hm'.out]; exact hkn)
        have hno := list_ne (zs := zs) (ys := ys) (k := k)
        obtain ⟨z, hz⟩ : ∃ z, zs.getD k ⟨#[]⟩ = z := ⟨_, rfl⟩
        obtain ⟨y, hy⟩ : ∃ y, ys.getD k ⟨#[]⟩ = y := ⟨_, rfl⟩
        rw [hz] at hcx hst hno
        rw [hy] at hcy hst hno
        clear hz hy
        have hki : (k : Int) < (n : Int) := by omega
        by_cases hzy : z = y
        · have hst' : Hid (zs.take (k + 1) = ys.take (k + 1)) := hst hzy ht.out
          subst hzy
          clear hst hno ht
          go_wp2
          go_quiet (fail)
          go_wp2
          go_roundw
          case rel => exact ⟨k + 1, d + nq, by omega, by go_num, rfl, hst'⟩
          case measure => simp [intOf]; omega
        · have hno' : Hid (decide (zs = ys) = false) := decide_eq_false (hno hzy)
          have hb := bytes_ne hzy
          clear hst hno ht
          go_wp2
          go_quiet (fail)
          go_wp2
          go_ret
          exact ⟨ret_bool hno'.out.symm, d + nq, drew_drew w d nq⟩
      · have hyes : Hid (decide (zs = ys) = true) := decide_eq_true (by
          have h := ht.out
          rw [List.take_of_length_le (by rw [hn'.out]; omega), List.take_of_length_le (by rw [hm'.out]; omega)] at h
          exact h)
        go_wp2
        go_ret
        exact ⟨ret_bool hyes.out.symm, d, rfl⟩

theorem strs_inj : ∀ {zs ys : List ByteArray}, strs zs = strs ys → zs = ys
  | [], [], _ => rfl
  | [], _ :: _, h => by simp [strs] at h
  | _ :: _, [], h => by simp [strs] at h
  | z :: zs, y :: ys, h => by
    simp only [strs, List.map_cons, List.cons.injEq] at h
    have e : z = y := by rw [← Lib.mk_data z, ← Lib.mk_data y, h.1]
    rw [e, strs_inj h.2]
theorem below_drewN' (w : World) (d : Nat) : Below w.heap.size w (w.drewN d) := below_drewN (Below.refl _ _) d

/-- What SplitPath answers, the answer known. -/
theorem SpPost.no {s : ByteArray} {w w' : World} {e : Ending} (h : SpPost s w e w') (hs : splitOf s.data.toList = none) : Below w.heap.size w w' ∧ ∃ a c, e = .returned (.tuple #[.slice a 0 c, .bool false]) := by
  rcases h.2 with ⟨_, h2⟩ | ⟨zs, g, c, h2, _⟩
  · exact ⟨h.1, h2⟩
  · rw [hs] at h2; cases h2
theorem SpPost.yes {s : ByteArray} {w w' : World} {e : Ending} {zs : List ByteArray} (h : SpPost s w e w') (hs : splitOf s.data.toList = some (strs zs)) : Below w.heap.size w w' ∧ ∃ g c, e = .returned (.tuple #[.slice (some ⟨g, 0, none⟩) zs.length c, .bool true]) ∧ w.heap.size ≤ g ∧ OwnS w' g zs.length c zs := by
  rcases h.2 with ⟨h2, _⟩ | ⟨ys, g, c, h2, h3⟩
  · rw [hs] at h2; cases h2
  · rw [hs, Option.some.injEq] at h2
    obtain rfl := strs_inj h2
    exact ⟨h.1, g, c, h3⟩
theorem split_strs {l : Str} {ps : List Str} (h : splitOf l = some ps) : ∃ zs, splitOf l = some (strs zs) ∧ zs.length ≤ 30 := by
  refine ⟨ps.map (fun p => ⟨p.toArray⟩), ?_, ?_⟩
  · rw [h]
    simp [strs, Function.comp_def]
  · simpa using good_len (split_good h)
end Go.Proofs.Ytgdloohafkanhaa
