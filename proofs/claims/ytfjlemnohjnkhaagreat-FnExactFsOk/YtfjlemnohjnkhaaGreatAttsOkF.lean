/-
  What the specification's l3Attrs answers.
-/
import Derived.Test.YtfjlemnohjnkhaaGreatEntsOkF
namespace Go.Proofs.YtfjlemnohjnkhaaGreat
open Go.RowKit
def attD : ByteArray × ByteArray := (⟨#[]⟩, ⟨#[]⟩)
/-- The i-th entry is right beside the one ahead of it. -/
def attAt (es : List (ByteArray × ByteArray)) (i : Nat) : Bool :=
  nameOk (es.getD i attD).1.data.toList && decide ((es.getD i attD).2.size ≤ 16) && (decide (i = 0) || Op.bytesLess (es.getD (i - 1) attD).1.toList (es.getD i attD).1.toList)
def attsOk (es : List (ByteArray × ByteArray)) : Bool := (List.range es.length).all (attAt es) && decide (es.length ≤ 4)
set_option maxHeartbeats 4000000 in
theorem l3Attrs_any (a : Option Addr) (n cap : Nat) (es : List (ByteArray × ByteArray)) (w : World) (hn : es.length = n) (hs : n ≤ 1048576) (hsz : ∀ q ∈ es, q.1.size ≤ 1048576 ∧ q.2.size ≤ 1048576) (hr : RdP w a (aP es)) :
    Calls Tryz.prog 98 #[.slice a n cap] w fun e w' => e = .returned (.bool (attsOk es)) ∧ ∃ d, w' = w.drewN d := by
  have hlast : attsOk es = ((List.range n).all (attAt es) && decide (n ≤ 4)) := by unfold attsOk; rw [hn]
  by_cases h0 : n = 0
  · subst h0
    obtain rfl : es = [] := List.length_eq_zero_iff.1 hn
    go_enter Tryz.func98, Tryz.ntmps98
    go_wp2
    refine wp_loop_rounds 1 ?_; rw [rounds_succ]
    go_wp2
    go_ret
    exact ⟨rfl, 0, rfl⟩
  · have hne : aP es ≠ [] := by intro h; have := congrArg List.length h; rw [aP_length, hn] at this; simp at this; omega
    obtain ⟨b, off, rfl, hlt, hc⟩ := hr.lt hne
    have HC : Hid _ := hc
    have hn' : Hid (es.length = n) := hn
    have HL : Hid _ := hlast
    clear hr hne hc hn hlast
    go_enter Tryz.func98, Tryz.ntmps98
    go_wp2
    go_loopw [3] (fun i wr => ∃ k d : Nat, k ≤ n ∧ i = .int .i64 k ∧ wr = w.drewN d ∧ Hid (∀ j, j < k → attAt es j = true)) (fun i _ => n - (intOf i).toNat)
    case atStart => exact ⟨0, 0, Nat.zero_le _, rfl, rfl, fun j hj => by omega⟩
    case round =>
      obtain ⟨k, d, hk, rfl, hwr0, hall⟩ := hrel
      have hwr : Hid (wr = w.drewN d) := hwr0
      have hcells : ∀ p, wr.cell? p = w.cell? p := fun p => by rw [hwr0]; rfl
      clear hwr0
      by_cases hkn : k < n
      · have hkl : k < es.length := by rw [hn'.out]; exact hkn
        have hki : (k : Int) < (n : Int) := by omega
        have hx := HC.out k (by rw [aP_length]; exact hkl)
        rw [aP_at es k hkl] at hx
        obtain ⟨hzs, hus⟩ := hsz es[k] (List.getElem_mem hkl)
        have hat : attAt es k = (nameOk es[k].1.data.toList && decide (es[k].2.size ≤ 16) && (decide (k = 0) || Op.bytesLess (es.getD (k - 1) attD).1.toList es[k].1.toList)) := by
          unfold attAt
          have e : es.getD k attD = es[k] := by simp [hkl]
          rw [e]
        have hno : attAt es k = false → attsOk es = false := fun h => by rw [HL.out, all_range_false hkn h]; rfl
        have hyes : attAt es k = true → ∀ j, j < k + 1 → attAt es j = true := by
          intro h j hj
          rcases (show j < k ∨ j = k by omega) with hj | rfl
          · exact hall.out j hj
          · exact h
        obtain ⟨z, hz⟩ : ∃ z, es[k].1 = z := ⟨_, rfl⟩
        obtain ⟨u, hu⟩ : ∃ u, es[k].2 = u := ⟨_, rfl⟩
        rw [hz, hu] at hx hat
        rw [hz] at hzs
        rw [hu] at hus
        obtain ⟨x1, x2⟩ := hx
        dsimp only at x1 x2
        rw [← hcells] at x1 x2
        have HCE : Hid _ := hcells
        clear hcells
        have HNO : Hid _ := hno
        have HYES : Hid _ := hyes
        have HAT : Hid _ := hat
        clear hno hyes hat hall hz hu
        cases hnm : nameOk z.data.toList with
        | false =>
          have hN : ∀ W : World, Calls Tryz.prog 19 #[.string z] W fun e w' => e = .returned (.bool false) ∧ w' = W := fun W => by rw [← hnm]; exact nameS z W (by omega)
          have hfin : Hid (attsOk es = false) := HNO.out (by rw [HAT.out, hnm]; rfl)
          clear HNO HYES HAT
          go_wp2
          go_quiet ((go_at_call 19; refine Calls.quiet_of_same (hN _)))
          go_wp2
          go_ret
          exact ⟨ret_bool hfin.out.symm, d + nq, by rw [hwr.out, World.drewN_drewN]⟩
        | true =>
          have hN : ∀ W : World, Calls Tryz.prog 19 #[.string z] W fun e w' => e = .returned (.bool true) ∧ w' = W := fun W => by rw [← hnm]; exact nameS z W (by omega)
          cases hin : decide (u.size ≤ 16) with
          | false =>
            have hu1 : 16 < u.size := by have := of_decide_eq_false hin; omega
            have hL : decide ((16 : Int) < (u.size : Int)) = true := decide_eq_true (by omega)
            have hfin : Hid (attsOk es = false) := HNO.out (by rw [HAT.out, hnm, hin]; rfl)
            clear HNO HYES HAT hin
            go_wp2
            go_quiet ((go_at_call 19; refine Calls.quiet_of_same (hN _)))
            go_wp2
            go_ret
            exact ⟨ret_bool hfin.out.symm, d + nq, by rw [hwr.out, World.drewN_drewN]⟩
          | true =>
            have hu1 : u.size ≤ 16 := of_decide_eq_true hin
            have hL : decide ((16 : Int) < (u.size : Int)) = false := decide_eq_false (by omega)
            by_cases hk0 : k = 0
            · have hk0' : ¬ (0 : Int) < (k : Int) := by omega
              have hnx : Hid _ := HYES.out (by rw [HAT.out, hnm, hin, decide_eq_true hk0]; rfl)
              clear HNO HYES HAT hin
              subst hk0
              simp only [Nat.zero_mul, Nat.add_zero] at x1 x2
              go_wp2
              go_quiet ((go_at_call 19; refine Calls.quiet_of_same (hN _)))
              go_wp2
              go_roundw
              case rel => exact ⟨0 + 1, d + nq, by omega, by go_num, by rw [hwr.out, World.drewN_drewN], hnx⟩
              case measure => simp [intOf]; omega
            · obtain ⟨m, hm⟩ : ∃ m, k = m + 1 := ⟨k - 1, by omega⟩
              subst hm
              have hml : m < es.length := by omega
              have hp := (HC.out m (by rw [aP_length]; exact hml)).1
              rw [aP_at es m hml, ← HCE.out] at hp
              dsimp only at hp
              have hgm : (es.getD (m + 1 - 1) attD).1 = es[m].1 := by simp [hml]
              have hat := HAT.out
              rw [hgm] at hat
              obtain ⟨y, hy⟩ : ∃ y, es[m].1 = y := ⟨_, rfl⟩
              rw [hy] at hp hat
              have hm1 : (m : Int) < (n : Int) := by omega
              have hm0 : (0 : Int) ≤ (m : Int) := by omega
              cases hlt2 : Op.bytesLess y.toList z.toList with
              | false =>
                have hfin : Hid (attsOk es = false) := HNO.out (by rw [hat, hnm, hin, hlt2]; simp)
                clear HNO HYES HAT hin hat hgm hy
                go_wp2
                go_quiet ((go_at_call 19; refine Calls.quiet_of_same (hN _)))
                go_wp2
                go_ret
                exact ⟨ret_bool hfin.out.symm, d + nq, by rw [hwr.out, World.drewN_drewN]⟩
              | true =>
                have hnx : Hid _ := HYES.out (by rw [hat, hnm, hin, hlt2]; simp)
                clear HNO HYES HAT hin hat hgm hy
                go_wp2
                go_quiet ((go_at_call 19; refine Calls.quiet_of_same (hN _)))
                go_wp2
                go_roundw
                case rel => exact ⟨m + 1 + 1, d + nq, by omega, by go_num, by rw [hwr.out, World.drewN_drewN], hnx⟩
                case measure => simp [intOf]; omega
      · have hki : ¬ (k : Int) < (n : Int) := by omega
        obtain rfl : k = n := by omega
        have hfin : Hid (attsOk es = decide (k ≤ 4)) := by show _ = _; rw [HL.out, all_range_true hall.out]; simp
        clear hall hcells
        by_cases h10 : k ≤ 4
        · have h10' : (k : Int) ≤ 4 := by omega
          go_wp2
          go_ret
          exact ⟨ret_bool (by rw [hfin.out, decide_eq_true h10]), d, hwr.out⟩
        · have h10' : ¬ (k : Int) ≤ 4 := by omega
          go_wp2
          go_ret
          exact ⟨ret_bool (by rw [hfin.out, decide_eq_false h10]), d, hwr.out⟩
end Go.Proofs.YtfjlemnohjnkhaaGreat
