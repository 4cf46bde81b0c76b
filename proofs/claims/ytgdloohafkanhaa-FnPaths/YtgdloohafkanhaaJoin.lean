/-
  What JoinPath answers, of the program and of the specification, at every row of texts.
-/
import Derived.Test.YtgdloohafkanhaaEqs
namespace Go.Proofs.Ytgdloohafkanhaa
open Go.RowKit

def strB (l : Str) : ByteArray := ⟨l.toArray⟩
/-- What k names are joined to. -/
def joinTo (zs : List ByteArray) (k : Nat) : Str := ((strs zs).take k).flatMap (fun p => 47 :: p)
theorem joinTo_zero (zs : List ByteArray) : joinTo zs 0 = [] := by simp [joinTo]
theorem joinTo_succ (zs : List ByteArray) (k : Nat) (h : k < zs.length) : joinTo zs (k + 1) = joinTo zs k ++ 47 :: (zs.getD k ⟨#[]⟩).data.toList := by
  unfold joinTo
  have h' : k < (strs zs).length := by rw [strs_length]; exact h
  rw [List.take_succ_eq_append_getElem h', List.flatMap_append]
  have e : (strs zs)[k] = (zs.getD k ⟨#[]⟩).data.toList := by simp [strs, h]
  simp [e]
theorem joinTo_all (zs : List ByteArray) (k : Nat) (h : zs.length ≤ k) : joinTo zs k = (strs zs).flatMap (fun p => 47 :: p) := by
  unfold joinTo
  rw [List.take_of_length_le (by rw [strs_length]; exact h)]

theorem join_none (zs : List ByteArray) (h0 : zs.length ≠ 0) (h : 30 < zs.length ∨ ∃ k, k < zs.length ∧ nameOk (zs.getD k ⟨#[]⟩).data.toList = false) : joinOf (strs zs) = [] := by
  have hne : strs zs ≠ [] := by intro e; apply h0; rw [← strs_length, e]; rfl
  have hg : good (strs zs) = false := by
    rw [Bool.eq_false_iff]
    intro hg
    rcases h with h | ⟨k, hk, h⟩
    · have := good_len hg; rw [strs_length] at this; omega
    · have hm : (zs.getD k ⟨#[]⟩).data.toList ∈ strs zs := by
        have e : zs.getD k ⟨#[]⟩ = zs[k] := by simp [hk]
        rw [e]
        exact List.mem_map.2 ⟨zs[k], List.getElem_mem hk, rfl⟩
      rw [good_all hg _ hm] at h
      simp at h
  rw [joinOf, if_neg hne, hg]
  rfl
theorem join_some (zs : List ByteArray) (h0 : zs.length ≠ 0) (h1 : zs.length ≤ 30) (h : ∀ k, k < zs.length → nameOk (zs.getD k ⟨#[]⟩).data.toList = true) : joinOf (strs zs) = joinTo zs zs.length := by
  have hne : strs zs ≠ [] := by intro e; apply h0; rw [← strs_length, e]; rfl
  have hg : good (strs zs) = true := by
    refine good_of (by rw [strs_length]; exact h1) ?_
    intro z hz
    obtain ⟨y, hy, rfl⟩ := List.mem_map.1 hz
    obtain ⟨k, hk, rfl⟩ := List.getElem_of_mem hy
    have := h k hk
    simpa [hk] using this
  rw [joinOf, if_neg hne, if_pos hg, joinTo_all zs _ (Nat.le_refl _)]

theorem joinTo_len (zs : List ByteArray) (k : Nat) (hk : k ≤ zs.length) (h : ∀ j, j < k → nameOk (zs.getD j ⟨#[]⟩).data.toList = true) : (joinTo zs k).length ≤ 15 * k := by
  induction k with
  | zero => simp [joinTo]
  | succ k ih =>
    rw [joinTo_succ zs k (by omega), List.length_append, List.length_cons]
    have := ih (by omega) (fun j hj => h j (by omega))
    have := nameOk_len (h k (by omega))
    omega
theorem strB_size (l : Str) : (strB l).size = l.length := by rw [Lib.size_eq]; simp [strB]

/-- Texts of at most so many bytes each. -/
def Smalls (zs : List ByteArray) : Prop := ∀ z ∈ zs, z.size ≤ 4000000
theorem Smalls.at {zs : List ByteArray} (h : Smalls zs) {k : Nat} (hk : k < zs.length) : (zs.getD k ⟨#[]⟩).size ≤ 4000000 := by
  have e : zs.getD k ⟨#[]⟩ = zs[k] := by simp [hk]
  rw [e]; exact h _ (List.getElem_mem hk)

theorem app_str (a : Str) (z : ByteArray) : strB a ++ ((⟨#[47]⟩ : ByteArray) ++ z) = strB (a ++ 47 :: z.data.toList) := by
  apply ByteArray.ext
  simp [strB, ByteArray.data_append]
theorem app_str' (a : Str) (z : ByteArray) : strB a ++ (⟨#[47]⟩ : ByteArray) ++ z = strB (a ++ 47 :: z.data.toList) := by
  apply ByteArray.ext
  simp [strB, ByteArray.data_append]

set_option maxHeartbeats 1000000 in
theorem joinI (a : Option Addr) (n cap : Nat) (zs : List ByteArray) (w : World) (hn : zs.length = n) (hs : n ≤ 4000000) (hsm : Smalls zs) (hr : RdS w a zs) :
    Calls Try.prog 13 #[.slice a n cap] w fun e w' => e = .returned (.string (strB (joinOf (strs zs)))) ∧ w' = w := by
  by_cases h0 : n = 0
  · subst h0
    obtain rfl : zs = [] := List.length_eq_zero_iff.1 hn
    go_enter Try.func13, Try.ntmps13
    go_wp2
    go_ret
    exact ⟨rfl, rfl⟩
  · have h0' : ¬ (n : Int) = 0 := by omega
    have h0b : ((n : Int) == 0) = false := by simpa using h0'
    by_cases h30 : 30 < n
    · have h30' : (30 : Int) < (n : Int) := by omega
      have hno : Hid (joinOf (strs zs) = []) := join_none zs (by omega) (.inl (by omega))
      clear hr
      go_enter Try.func13, Try.ntmps13
      go_wp2
      go_ret
      exact ⟨by rw [hno.out]; rfl, rfl⟩
    · have h30' : ¬ (30 : Int) < (n : Int) := by omega
      obtain ⟨b, off, rfl, hlt, hc⟩ := hr.lt (by intro h; subst h; simp at hn; omega)
      clear hr
      have hn' : Hid (zs.length = n) := hn
      clear hn
      obtain ⟨E, hE⟩ : ∃ E, strB [] = E := ⟨_, rfl⟩
      go_enter Try.func13, Try.ntmps13
      go_wp2
      go_loop [3, 14] (fun v i => ∃ k : Nat, k ≤ n ∧ i = .int .i64 k ∧ v = .string (strB (joinTo zs k)) ∧ Hid (∀ j, j < k → nameOk (zs.getD j ⟨#[]⟩).data.toList = true)) (fun _ i => n - (intOf i).toNat)
      case atStart => exact ⟨0, Nat.zero_le _, rfl, by rw [joinTo_zero]; rfl, fun j hj => by omega⟩
      case round =>
        obtain ⟨k, hk, rfl, rfl, hall⟩ := hrel
        by_cases hkn : k < n
        · have hkl : k < zs.length := by rw [hn'.out]; exact hkn
          have hki : (k : Int) < (n : Int) := by omega
          have hcx := hc k hkl
          have hzs := hsm.at hkl
          have hsucc := joinTo_succ zs k hkl
          have hnone : nameOk (zs.getD k ⟨#[]⟩).data.toList = false → joinOf (strs zs) = [] := fun h => join_none zs (by omega) (.inr ⟨k, hkl, h⟩)
          have hall' : nameOk (zs.getD k ⟨#[]⟩).data.toList = true → ∀ j, j < k + 1 → nameOk (zs.getD j ⟨#[]⟩).data.toList = true := by
            intro h j hj
            rcases (show j < k ∨ j = k by omega) with hj | rfl
            · exact hall.out j hj
            · exact h
          obtain ⟨z, hz⟩ : ∃ z, zs.getD k ⟨#[]⟩ = z := ⟨_, rfl⟩
          rw [hz] at hcx hzs hsucc hnone hall'
          have hTs : (strB (joinTo zs k)).size ≤ 15 * k := by rw [strB_size]; exact joinTo_len zs k (by omega) hall.out
          have happ := app_str (joinTo zs k) z
          rw [← hsucc] at happ
          obtain ⟨T, hT⟩ : ∃ T, strB (joinTo zs k) = T := ⟨_, rfl⟩
          obtain ⟨T', hT'⟩ : ∃ T', strB (joinTo zs (k + 1)) = T' := ⟨_, rfl⟩
          rw [hT, hT'] at happ
          rw [hT] at hTs ⊢
          have hlim : ¬ 9223372036854775807 < T.size + (1 + z.size) := by omega
          have HA : Hid _ := hall'
          have HN : Hid _ := hnone
          clear hz hsucc hall hall' hnone hT hkl
          go_wp2_with fail
          refine (nameI z w hzs).mono ?_
          rintro e w1 ⟨rfl, hw⟩
          obtain rfl := hw.symm
          cases hnm : nameOk z.data.toList with
          | false =>
            have hno : Hid (joinOf (strs zs) = []) := HN.out hnm
            go_wp2
            go_ret
            exact ⟨by rw [hno.out]; rfl, rfl⟩
          | true =>
            have hal : Hid _ := HA.out hnm
            go_wp2
            go_round
            case rel => exact ⟨k + 1, by omega, by go_num, by rw [hT'], hal⟩
            case measure => simp [intOf]; omega
        · have hki : ¬ (k : Int) < (n : Int) := by omega
          obtain rfl : k = n := by omega
          have hyes : Hid (joinOf (strs zs) = joinTo zs k) := by
            show _ = _
            rw [join_some zs (by rw [hn'.out]; exact h0) (by rw [hn'.out]; omega) (by rw [hn'.out]; exact hall.out), hn'.out]
          go_wp2
          go_ret
          exact ⟨by rw [hyes.out]; rfl, rfl⟩
set_option maxHeartbeats 1000000 in
theorem joinS (a : Option Addr) (n cap : Nat) (zs : List ByteArray) (w : World) (hn : zs.length = n) (hs : n ≤ 4000000) (hsm : Smalls zs) (hr : RdS w a zs) :
    Calls Try.prog 17 #[.slice a n cap] w fun e w' => e = .returned (.string (strB (joinOf (strs zs)))) ∧ w' = w := by
  by_cases h0 : n = 0
  · subst h0
    obtain rfl : zs = [] := List.length_eq_zero_iff.1 hn
    go_enter Try.func17, Try.ntmps17
    go_wp2
    go_ret
    exact ⟨rfl, rfl⟩
  · have h0' : ¬ (n : Int) = 0 := by omega
    have h0b : ((n : Int) == 0) = false := by simpa using h0'
    obtain ⟨b, off, rfl, hlt, hc⟩ := hr.lt (by intro h; subst h; simp at hn; omega)
    clear hr
    have hn' : Hid (zs.length = n) := hn
    clear hn
    obtain ⟨E, hE⟩ : ∃ E, strB [] = E := ⟨_, rfl⟩
    go_enter Try.func17, Try.ntmps17
    go_wp2
    go_loop [3, 4] (fun v i => ∃ k : Nat, k ≤ n ∧ i = .int .i64 k ∧ v = .string (strB (joinTo zs k)) ∧ Hid (∀ j, j < k → nameOk (zs.getD j ⟨#[]⟩).data.toList = true) ∧ (k = 0 ∨ n ≤ 30)) (fun _ i => n - (intOf i).toNat)
    case atStart => exact ⟨0, Nat.zero_le _, rfl, by rw [joinTo_zero]; rfl, fun j hj => by omega, .inl rfl⟩
    case round =>
      obtain ⟨k, hk, rfl, rfl, hall, hk30⟩ := hrel
      by_cases hkn : k < n
      · have hkl : k < zs.length := by rw [hn'.out]; exact hkn
        have hki : (k : Int) < (n : Int) := by omega
        have hcx := hc k hkl
        have hzs := hsm.at hkl
        have hsucc := joinTo_succ zs k hkl
        have hnone : nameOk (zs.getD k ⟨#[]⟩).data.toList = false → joinOf (strs zs) = [] := fun h => join_none zs (by omega) (.inr ⟨k, hkl, h⟩)
        have hall' : nameOk (zs.getD k ⟨#[]⟩).data.toList = true → ∀ j, j < k + 1 → nameOk (zs.getD j ⟨#[]⟩).data.toList = true := by
          intro h j hj
          rcases (show j < k ∨ j = k by omega) with hj | rfl
          · exact hall.out j hj
          · exact h
        obtain ⟨z, hz⟩ : ∃ z, zs.getD k ⟨#[]⟩ = z := ⟨_, rfl⟩
        rw [hz] at hcx hzs hsucc hnone hall'
        have hTs : (strB (joinTo zs k)).size ≤ 15 * k := by rw [strB_size]; exact joinTo_len zs k (by rw [hn'.out]; omega) hall.out
        have happ := app_str' (joinTo zs k) z
        rw [← hsucc] at happ
        obtain ⟨T, hT⟩ : ∃ T, strB (joinTo zs k) = T := ⟨_, rfl⟩
        obtain ⟨T', hT'⟩ : ∃ T', strB (joinTo zs (k + 1)) = T' := ⟨_, rfl⟩
        rw [hT, hT'] at happ
        rw [hT] at hTs ⊢
        have hlim0 : ¬ 9223372036854775807 < T.size + 1 := by omega
        have hlim : ¬ 9223372036854775807 < T.size + 1 + z.size := by omega
        have HA : Hid _ := hall'
        have HN : Hid _ := hnone
        clear hz hsucc hall hall' hnone hT hkl
        go_wp2_with fail
        refine (nameS z w hzs).mono ?_
        rintro e w1 ⟨rfl, hw⟩
        obtain rfl := hw.symm
        cases hnm : nameOk z.data.toList with
        | false =>
          have hno : Hid (joinOf (strs zs) = []) := HN.out hnm
          go_wp2
          go_ret
          exact ⟨by rw [hno.out]; rfl, rfl⟩
        | true =>
          have hal : Hid _ := HA.out hnm
          by_cases h30 : 30 < n
          · have h30' : (30 : Int) < (n : Int) := by omega
            have hno : Hid (joinOf (strs zs) = []) := join_none zs (by rw [hn'.out]; exact h0) (.inl (by rw [hn'.out]; exact h30))
            go_wp2
            go_ret
            exact ⟨by rw [hno.out]; rfl, rfl⟩
          · have h30' : ¬ (30 : Int) < (n : Int) := by omega
            go_wp2
            go_round
            case rel => exact ⟨k + 1, by omega, by go_num, by rw [hT'], hal, by omega⟩
            case measure => simp [intOf]; omega
      · have hki : ¬ (k : Int) < (n : Int) := by omega
        obtain rfl : k = n := by omega
        have hyes : Hid (joinOf (strs zs) = joinTo zs k) := by
          show _ = _
          rw [join_some zs (by rw [hn'.out]; exact h0) (by rw [hn'.out]; omega) (by rw [hn'.out]; exact hall.out), hn'.out]
        go_wp2
        go_ret
        exact ⟨by rw [hyes.out]; rfl, rfl⟩
end Go.Proofs.Ytgdloohafkanhaa
