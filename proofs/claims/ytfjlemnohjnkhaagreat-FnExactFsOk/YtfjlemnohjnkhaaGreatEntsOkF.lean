/-
  What the specification's l3Ents and l3Attrs answer.
-/
import Derived.Test.YtfjlemnohjnkhaaGreatJ02F
import Derived.ProofKit
import Derived.ChangeOld
import Derived.Below
namespace Go.Proofs.YtfjlemnohjnkhaaGreat
open Go.RowKit
def entD : ByteArray × Int := (⟨#[]⟩, 0)
/-- The i-th entry is right beside the one ahead of it. -/
def entAt (es : List (ByteArray × Int)) (i : Nat) : Bool :=
  nameOk (es.getD i entD).1.data.toList && (decide (2 ≤ (es.getD i entD).2) && decide ((es.getD i entD).2 ≤ 1000)) && (decide (i = 0) || Op.bytesLess (es.getD (i - 1) entD).1.toList (es.getD i entD).1.toList)
def entsOk (es : List (ByteArray × Int)) : Bool := (List.range es.length).all (entAt es) && decide (es.length ≤ 10)
theorem all_range_false {p : Nat → Bool} {n k : Nat} (hk : k < n) (h : p k = false) : (List.range n).all p = false := by
  rw [List.all_eq_false]; exact ⟨k, List.mem_range.2 hk, by simp [h]⟩
theorem all_range_true {p : Nat → Bool} {n : Nat} (h : ∀ k, k < n → p k = true) : (List.range n).all p = true := by
  rw [List.all_eq_true]; exact fun k hk => h k (List.mem_range.1 hk)
set_option maxHeartbeats 2000000 in
theorem l3Ents_any (a : Option Addr) (n cap : Nat) (es : List (ByteArray × Int)) (w : World) (hn : es.length = n) (hs : n ≤ 1048576) (hsz : ∀ q ∈ es, q.1.size ≤ 1048576) (hr : RdP w a (eP es)) :
    Calls Tryz.prog 97 #[.slice a n cap] w fun e w' => e = .returned (.bool (entsOk es)) ∧ ∃ d, w' = w.drewN d := by
  have hlast : entsOk es = ((List.range n).all (entAt es) && decide (n ≤ 10)) := by unfold entsOk; rw [hn]
  by_cases h0 : n = 0
  · subst h0
    obtain rfl : es = [] := List.length_eq_zero_iff.1 hn
    go_enter Tryz.func97, Tryz.ntmps97
    go_wp2
    refine wp_loop_rounds 1 ?_; rw [rounds_succ]
    go_wp2
    go_ret
    exact ⟨rfl, 0, rfl⟩
  · have hne : eP es ≠ [] := by intro h; have := congrArg List.length h; rw [eP_length, hn] at this; simp at this; omega
    obtain ⟨b, off, rfl, hlt, hc⟩ := hr.lt hne
    have HC : Hid _ := hc
    have hn' : Hid (es.length = n) := hn
    have HL : Hid _ := hlast
    clear hr hne hc hn hlast
    go_enter Tryz.func97, Tryz.ntmps97
    go_wp2
    go_loopw [3] (fun i wr => ∃ k d : Nat, k ≤ n ∧ i = .int .i64 k ∧ wr = w.drewN d ∧ Hid (∀ j, j < k → entAt es j = true)) (fun i _ => n - (intOf i).toNat)
    case atStart => exact ⟨0, 0, Nat.zero_le _, rfl, rfl, fun j hj => by omega⟩
    case round =>
      obtain ⟨k, d, hk, rfl, hwr0, hall⟩ := hrel
      have hwr : Hid (wr = w.drewN d) := hwr0
      have hcells : ∀ p, wr.cell? p = w.cell? p := fun p => by rw [hwr0]; rfl
      clear hwr0
      by_cases hkn : k < n
      · have hkl : k < es.length := by rw [hn'.out]; exact hkn
        have hki : (k : Int) < (n : Int) := by omega
        have hx := HC.out k (by rw [eP_length]; exact hkl)
        rw [eP_at es k hkl] at hx
        have hzs := hsz es[k] (List.getElem_mem hkl)
        have hat : entAt es k = (nameOk es[k].1.data.toList && (decide (2 ≤ es[k].2) && decide (es[k].2 ≤ 1000)) && (decide (k = 0) || Op.bytesLess (es.getD (k - 1) entD).1.toList es[k].1.toList)) := by
          unfold entAt
          have e : es.getD k entD = es[k] := by simp [hkl]
          rw [e]
        have hno : entAt es k = false → entsOk es = false := fun h => by rw [HL.out, all_range_false hkn h]; rfl
        have hyes : entAt es k = true → ∀ j, j < k + 1 → entAt es j = true := by
          intro h j hj
          rcases (show j < k ∨ j = k by omega) with hj | rfl
          · exact hall.out j hj
          · exact h
        obtain ⟨z, hz⟩ : ∃ z, es[k].1 = z := ⟨_, rfl⟩
        obtain ⟨u, hu⟩ : ∃ u, es[k].2 = u := ⟨_, rfl⟩
        rw [hz, hu] at hx hat
        rw [hz] at hzs
        obtain ⟨x1, x2⟩ := hx
        dsimp only at x1 x2
        rw [← hcells] at x1 x2
        have HCE : Hid _ := hcells
        clear hcells
        have HNO : Hid _ := hno
        have HYES : Hid _ := hyes
        have HAT : Hid _ := hat
        clear hno hyes hat hall hz hu
        cases hnm : nameOk z.data.toList with
        | false =>
          have hN : ∀ W : World, Calls Tryz.prog 19 #[.string z] W fun e w' => e = .returned (.bool false) ∧ w' = W := fun W => by rw [← hnm]; exact nameS z W (by omega)
          have hfin : Hid (entsOk es = false) := HNO.out (by rw [HAT.out, hnm]; rfl)
          clear HNO HYES HAT
          go_wp2
          go_quiet ((go_at_call 19; refine Calls.quiet_of_same (hN _)))
          go_wp2
          go_ret
          exact ⟨ret_bool hfin.out.symm, d + nq, by rw [hwr.out, World.drewN_drewN]⟩
        | true =>
          have hN : ∀ W : World, Calls Tryz.prog 19 #[.string z] W fun e w' => e = .returned (.bool true) ∧ w' = W := fun W => by rw [← hnm]; exact nameS z W (by omega)
          cases hin : (decide (2 ≤ u) && decide (u ≤ 1000)) with
          | false =>
            have hL : ∀ W : World, Calls Tryz.prog 18 #[.int .i64 u, .int .i64 2, .int .i64 1000] W fun e w' => e = .returned (.bool false) ∧ w' = W := fun W => by rw [← hin]; exact l1In_any u 2 1000 W
            have hfin : Hid (entsOk es = false) := HNO.out (by rw [HAT.out, hnm, hin]; rfl)
            clear HNO HYES HAT hin
            go_wp2
            go_quiet ((first | (go_at_call 19; refine Calls.quiet_of_same (hN _)) | (go_at_call 18; refine Calls.quiet_of_same (hL _))))
            go_wp2
            go_ret
            exact ⟨ret_bool hfin.out.symm, d + nq, by rw [hwr.out, World.drewN_drewN]⟩
          | true =>
            have hL : ∀ W : World, Calls Tryz.prog 18 #[.int .i64 u, .int .i64 2, .int .i64 1000] W fun e w' => e = .returned (.bool true) ∧ w' = W := fun W => by rw [← hin]; exact l1In_any u 2 1000 W
            by_cases hk0 : k = 0
            · have hk0' : ¬ (0 : Int) < (k : Int) := by omega
              have hnx : Hid _ := HYES.out (by rw [HAT.out, hnm, hin, decide_eq_true hk0]; rfl)
              clear HNO HYES HAT hin
              subst hk0
              simp only [Nat.zero_mul, Nat.add_zero] at x1 x2
              go_wp2
              go_quiet ((first | (go_at_call 19; refine Calls.quiet_of_same (hN _)) | (go_at_call 18; refine Calls.quiet_of_same (hL _))))
              go_wp2
              go_roundw
              case rel => exact ⟨0 + 1, d + nq, by omega, by go_num, by rw [hwr.out, World.drewN_drewN], hnx⟩
              case measure => simp [intOf]; omega
            · obtain ⟨m, hm⟩ : ∃ m, k = m + 1 := ⟨k - 1, by omega⟩
              subst hm
              have hml : m < es.length := by omega
              have hp := (HC.out m (by rw [eP_length]; exact hml)).1
              rw [eP_at es m hml, ← HCE.out] at hp
              dsimp only at hp
              have hgm : (es.getD (m + 1 - 1) entD).1 = es[m].1 := by simp [hml]
              have hat := HAT.out
              rw [hgm] at hat
              obtain ⟨y, hy⟩ : ∃ y, es[m].1 = y := ⟨_, rfl⟩
              rw [hy] at hp hat
              have hm1 : (m : Int) < (n : Int) := by omega
              have hm0 : (0 : Int) ≤ (m : Int) := by omega
              cases hlt2 : Op.bytesLess y.toList z.toList with
              | false =>
                have hfin : Hid (entsOk es = false) := HNO.out (by rw [hat, hnm, hin, hlt2]; simp)
                clear HNO HYES HAT hin hat hgm hy
                go_wp2
                go_quiet ((first | (go_at_call 19; refine Calls.quiet_of_same (hN _)) | (go_at_call 18; refine Calls.quiet_of_same (hL _))))
                go_wp2
                go_ret
                exact ⟨ret_bool hfin.out.symm, d + nq, by rw [hwr.out, World.drewN_drewN]⟩
              | true =>
                have hnx : Hid _ := HYES.out (by rw [hat, hnm, hin, hlt2]; simp)
                clear HNO HYES HAT hin hat hgm hy
                go_wp2
                go_quiet ((first | (go_at_call 19; refine Calls.quiet_of_same (hN _)) | (go_at_call 18; refine Calls.quiet_of_same (hL _))))
                go_wp2
                go_roundw
                case rel => exact ⟨m + 1 + 1, d + nq, by omega, by go_num, by rw [hwr.out, World.drewN_drewN], hnx⟩
                case measure => simp [intOf]; omega
      · have hki : ¬ (k : Int) < (n : Int) := by omega
        obtain rfl : k = n := by omega
        have hfin : Hid (entsOk es = decide (k ≤ 10)) := by show _ = _; rw [HL.out, all_range_true hall.out]; simp
        clear hall hcells
        by_cases h10 : k ≤ 10
        · have h10' : (k : Int) ≤ 10 := by omega
          go_wp2
          go_ret
          exact ⟨ret_bool (by rw [hfin.out, decide_eq_true h10]), d, hwr.out⟩
        · have h10' : ¬ (k : Int) ≤ 10 := by omega
          go_wp2
          go_ret
          exact ⟨ret_bool (by rw [hfin.out, decide_eq_false h10]), d, hwr.out⟩
end Go.Proofs.YtfjlemnohjnkhaaGreat
