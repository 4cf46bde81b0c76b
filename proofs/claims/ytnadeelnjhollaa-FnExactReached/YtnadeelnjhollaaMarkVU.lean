/-
  Contracts for eqIntS, markIntS and heldIntS of the laws.
-/
import Derived.Test.YtnadeelnjhollaaREU
namespace Go.Proofs.Ytnadeelnjhollaa
open Go.RowKit
theorem iV_get {xs : List Int} {k : Nat} (h : k < xs.length) : (iV xs)[k]? = some (.int .i64 xs[k]) := by
  unfold iV
  rw [List.getElem?_map, List.getElem?_eq_getElem h]
  rfl
set_option maxHeartbeats 1000000 in
theorem eqIntS_true (a a' : Option Addr) (n cap cap' : Nat) (xs : List Int) (w : World) (hn : xs.length = n) (hs : n ≤ 4000000) (hr : RdV w a (iV xs)) (hr' : RdV w a' (iV xs)) :
    Calls Try.prog 10 #[.slice a n cap, .slice a' n cap'] w fun e w' => e = .returned (.bool true) ∧ Below w.heap.size w w' := by
  by_cases h0 : n = 0
  · subst h0
    go_enter Try.func10, Try.ntmps10
    go_wp2
    refine wp_loop_rounds 1 ?_; rw [rounds_succ]
    go_wp2
    go_ret
    exact ⟨rfl, Below.refl _ _⟩
  · have hz : iV xs ≠ [] := by intro h; have := congrArg List.length h; rw [iV_len] at this; simp at this; rw [this] at hn; simp at hn; omega
    obtain ⟨b, off, rfl, hlt, hc⟩ := RdV.lt hr hz
    obtain ⟨b', off', rfl, hlt', hc'⟩ := RdV.lt hr' hz
    clear hr hr'
    have hn' : Hid (xs.length = n) := hn
    clear hn
    go_enter Try.func10, Try.ntmps10
    go_wp2
    go_loopw [5] (fun i wr => ∃ k d : Nat, k ≤ n ∧ i = .int .i64 k ∧ wr = w.drewN d) (fun i _ => n - (intOf i).toNat)
    case atStart => exact ⟨0, 0, Nat.zero_le _, rfl, rfl⟩
    case round =>
      obtain ⟨k, d, hk, rfl, rfl⟩ := hrel
      by_cases hkn : k < n
      · have hkl : k < xs.length := by rw [hn'.out]; exact hkn
        have hcx := hc k _ (iV_get hkl)
        have hcy := hc' k _ (iV_get hkl)
        have hki : (k : Int) < (n : Int) := by omega
        generalize xs[k] = u at hcx hcy
        have huu : (u != u) = false := by simp
        have huv : (u == u) = true := by simp
        go_wp2
        go_quiet (fail)
        go_wp2
        go_roundw
        case rel => exact ⟨k + 1, d + nq, by omega, by go_num, rfl⟩
        case measure => simp [intOf]; omega
      · have hki : ¬ (k : Int) < (n : Int) := by omega
        go_wp2
        go_ret
        exact ⟨rfl, below_drewN (Below.refl _ _) d⟩
theorem grV (w : World) (r : Option Nat) : w.grownBy w r := ⟨rfl, rfl, rfl, Nat.le_refl _, fun _ _ _ => rfl⟩
/-- What a row of n numbers holds when it is marked from 1 on. -/
def marksV (n : Nat) : List Int := (List.range n).map (fun i : Nat => (i : Int) + 1)
def mksV (xs : List Int) (k : Nat) : List Int := (List.range k).map (fun i : Nat => (i : Int) + 1) ++ xs.drop k
theorem mksV_set (xs : List Int) (k : Nat) (h : k < xs.length) : (mksV xs k).set k ((k : Int) + 1) = mksV xs (k + 1) := by
  unfold mksV
  rw [List.set_append_right _ _ (by simp)]
  have e : k - ((List.range k).map (fun i : Nat => (i : Int) + 1)).length = 0 := by simp
  rw [e, List.drop_eq_getElem_cons h, List.set_cons_zero, List.range_succ, List.map_append, List.append_assoc]
  rfl
theorem iV_set (xs : List Int) (k : Nat) (z : Int) : iV (xs.set k z) = (iV xs).set k (.int .i64 z) := by unfold iV; rw [List.map_set]
theorem mksV_len (xs : List Int) (k : Nat) (h : k ≤ xs.length) : (mksV xs k).length = xs.length := by unfold mksV; simp; omega
set_option maxHeartbeats 1000000 in
theorem markV_any (B : Nat) (v : Value) (n : Nat) (xs : List Int) (w : World) (hn : xs.length = n) (hs : n ≤ 4000000) (hown : w.ownsRow B 3 1 v n (iV xs)) :
    Calls Try.prog 13 #[v, .int .i64 1] w fun e w' => e = .returned (.int .i64 ((n : Int) + 1)) ∧ w'.ownsRow B 3 1 v n (iV (marksV n)) ∧ w.grownBy w' v.ownBlock := by
  rcases hown.2 with ⟨rfl, rfl⟩ | ⟨g, c, cur, rfl, _⟩
  · go_enter Try.func13, Try.ntmps13
    go_wp2
    refine wp_loop_rounds 1 ?_; rw [rounds_succ]
    go_wp2
    go_ret
    exact ⟨rfl, ⟨rfl, .inl ⟨rfl, rfl⟩⟩, grV w _⟩
  · have hn' : Hid (xs.length = n) := hn
    clear hn
    have h00 : Hid _ := hown
    clear hown
    go_enter Try.func13, Try.ntmps13
    go_wp2
    go_loopw [1, 5] (fun q i wr => ∃ k : Nat, k ≤ n ∧ i = .int .i64 k ∧ q = .int .i64 ((k : Int) + 1) ∧ wr.ownsRow B 3 1 (.slice (some ⟨g, 0, none⟩) n c) n (iV (mksV xs k)) ∧ w.grownBy wr (some g)) (fun _ i _ => n - (intOf i).toNat)
    case atStart => exact ⟨0, Nat.zero_le _, rfl, rfl, by rw [show mksV xs 0 = xs by simp [mksV]]; exact h00.out, grV w _⟩
    case round =>
      obtain ⟨k, hk, rfl, rfl, ho, hgr⟩ := hrel
      by_cases hkn : k < n
      · have hki : (k : Int) < (n : Int) := by omega
        have hcy := World.ownsRow.cellAt ho k (by omega)
        have hfy := World.ownsRow.frozenAt ho k
        have hly : k < (mksV xs k).length := by rw [mksV_len xs k (by rw [hn'.out]; exact hk), hn'.out]; exact hkn
        rw [iV_get hly] at hcy
        have hst := World.ownsRow.stored ho k (.int .i64 ((k : Int) + 1))
        rw [← iV_set, mksV_set xs k (by rw [hn'.out]; exact hkn)] at hst
        have hst1 := hst.1
        have hgr' := hgr.trans hst.2
        clear ho hgr hst
        go_wp2
        go_roundw
        case rel => exact ⟨k + 1, by omega, by go_num, by go_num, hst1, hgr'⟩
        case measure => simp [intOf]; omega
      · have hki : ¬ (k : Int) < (n : Int) := by omega
        go_wp2
        go_ret
        obtain rfl : k = n := by omega
        refine ⟨rfl, ?_, hgr⟩
        have e : mksV xs k = marksV k := by unfold mksV marksV; rw [List.drop_of_length_le (by rw [hn'.out]; omega)]; simp
        rw [e] at ho
        exact ho
set_option maxHeartbeats 1000000 in
theorem heldV_any (B : Nat) (v : Value) (n : Nat) (w : World) (hs : n ≤ 4000000) (hown : w.ownsRow B 3 1 v n (iV (marksV n))) :
    Calls Try.prog 14 #[v, .int .i64 1] w fun e w' => e = .returned (.int .i64 ((n : Int) + 1)) ∧ w' = w := by
  rcases hown.2 with ⟨rfl, rfl⟩ | ⟨g, c, cur, rfl, _⟩
  · go_enter Try.func14, Try.ntmps14
    go_wp2
    refine wp_loop_rounds 1 ?_; rw [rounds_succ]
    go_wp2
    go_ret
    exact ⟨rfl, rfl⟩
  · go_enter Try.func14, Try.ntmps14
    have ho : Hid _ := hown
    clear hown
    go_wp2
    go_loop [1, 5] (fun q i => ∃ k : Nat, k ≤ n ∧ i = .int .i64 k ∧ q = .int .i64 ((k : Int) + 1)) (fun _ i => n - (intOf i).toNat)
    case atStart => exact ⟨0, Nat.zero_le _, rfl, rfl⟩
    case round =>
      obtain ⟨k, hk, rfl, rfl⟩ := hrel
      by_cases hkn : k < n
      · have hki : (k : Int) < (n : Int) := by omega
        have hcy := World.ownsRow.cellAt ho.out k (by omega)
        have hly : k < (marksV n).length := by simp [marksV]; exact hkn
        rw [iV_get hly] at hcy
        have he : (marksV n)[k] = (k : Int) + 1 := by simp [marksV]
        rw [he] at hcy
        have huu : ((k : Int) + 1 != (k : Int) + 1) = false := by simp
        have huv : ((k : Int) + 1 == (k : Int) + 1) = true := by simp
        clear he
        go_wp2
        go_round
        case rel => exact ⟨k + 1, by omega, by go_num, by go_num⟩
        case measure => simp [intOf]; omega
      · have hki : ¬ (k : Int) < (n : Int) := by omega
        go_wp2
        go_ret
        obtain rfl : k = n := by omega
        exact ⟨rfl, rfl⟩
end Go.Proofs.Ytnadeelnjhollaa
