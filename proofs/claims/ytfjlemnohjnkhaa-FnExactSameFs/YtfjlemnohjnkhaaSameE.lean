/-
  Lists of entries and of attributes compared: the program's slices.Equal.
-/
import Derived.Test.YtfjlemnohjnkhaaRows
import Derived.Test.YtfjlemnohjnkhaaBase
import Derived.Test.YtfjlemnohjnkhaaName
import Derived.Test.YtfjlemnohjnkhaaPairs
import Derived.Test.YtfjlemnohjnkhaaEntOf
import Derived.WalkKit
import Derived.WalkSpells
import Derived.WalkLawsBesides
import Derived.Deep.QuietTactic
import Derived.BigQuiet
import Derived.OpenShut
import Derived.Laws.BitsAllLaws
import Derived.Maps.AppendAt
import Derived.Lib.SliceRun
import Derived.Lib.Strings
import Derived.Deep.RegionWith
import Derived.Laws.IdiomStrings
import Derived.Deep.Slices
import Derived.ProofKit
import Derived.ChangeOld
import Derived.Below
import Derived.Laws.StructEq
namespace Go.Proofs.Ytfjlemnohjnkhaa
open Go.RowKit
set_option maxHeartbeats 1000000 in
theorem neqEnt (z z' : ByteArray) (x x' : Int) (w : World) : (binOp .neq 78 (.agg #[.string z, .int .i64 x]) (.agg #[.string z', .int .i64 x'])).run Try.prog w = .ok (.bool (!(z.toList == z'.toList && x == x'))) w := by
  have u3 := Try.underlying3
  have u9 := Try.underlying9
  have a3 := Try.isAgg3
  have a9 := Try.isAgg9
  have z3 := Try.sizeOf3
  have z9 := Try.sizeOf9
  have hS : Try.prog.underlying 78 = some (.struct (Try.prog.fieldsOf 78)) := by kernel_rfl
  have hp : Try.prog.stoodInHeld 78 = false := by kernel_rfl
  rw [run_neq_struct, show (10000 : Nat) = 9999 + 1 from rfl, run_equalIn_agg w 9999 78 _ _ hS hp]
  simp only [Program.fieldsOf, Try.underlying78]
  go_simp
  by_cases h1 : z.toList = z'.toList <;> by_cases h2 : x = x' <;> simp [h1, h2]
set_option maxHeartbeats 1000000 in
theorem neqAttr (z z' x x' : ByteArray) (w : World) : (binOp .neq 80 (.agg #[.string z, .string x]) (.agg #[.string z', .string x'])).run Try.prog w = .ok (.bool (!(z.toList == z'.toList && x.toList == x'.toList))) w := by
  have u9 := Try.underlying9
  have a9 := Try.isAgg9
  have z9 := Try.sizeOf9
  have hS : Try.prog.underlying 80 = some (.struct (Try.prog.fieldsOf 80)) := by kernel_rfl
  have hp : Try.prog.stoodInHeld 80 = false := by kernel_rfl
  rw [run_neq_struct, show (10000 : Nat) = 9999 + 1 from rfl, run_equalIn_agg w 9999 80 _ _ hS hp]
  simp only [Program.fieldsOf, Try.underlying80]
  go_simp
  by_cases h1 : z.toList = z'.toList <;> by_cases h2 : x.toList = x'.toList <;> simp [h1, h2]
theorem guardEnt (op : BinOp) (a b : Operand) (x y : Array Value) (w : World) : (eqGuard op 78 a b (.agg x) (.agg y)).run Try.prog w = .ok () w := run_eqGuard_agg w op 78 a b x y (by kernel_rfl)
theorem guardAttr (op : BinOp) (a b : Operand) (x y : Array Value) (w : World) : (eqGuard op 80 a b (.agg x) (.agg y)).run Try.prog w = .ok () w := run_eqGuard_agg w op 80 a b x y (by kernel_rfl)
theorem pairE_eq (p q : ByteArray × Int) : (p.1.toList == q.1.toList && p.2 == q.2) = decide (p = q) := by
  by_cases h : p = q
  · subst h; simp
  · rw [decide_eq_false h]
    by_cases h1 : p.1 = q.1
    · have h2 : ¬ p.2 = q.2 := fun e => h (Prod.ext h1 e)
      simp [h2]
    · rw [bytes_ne h1]; rfl
set_option maxHeartbeats 2000000 in
theorem eqSE_any (a a' : Option Addr) (n m cap cap' : Nat) (es fs : List (ByteArray × Int)) (w : World) (hn : es.length = n) (hm : fs.length = m) (hs : n ≤ 4000000) (hs' : m ≤ 4000000) (hr : RdP w a (eP es)) (hr' : RdP w a' (eP fs)) :
    Calls Try.prog 60 #[.slice a n cap, .slice a' m cap'] w fun e w' => e = .returned (.bool (decide (es = fs))) ∧ ∃ d, w' = w.drewN d := by
  by_cases hnm : n = m
  · subst hnm
    by_cases h0 : n = 0
    · subst h0
      obtain rfl : es = [] := List.length_eq_zero_iff.1 hn
      obtain rfl : fs = [] := List.length_eq_zero_iff.1 hm
      go_enter Try.func60, Try.ntmps60
      go_wp2
      refine wp_loop_rounds 1 ?_; rw [rounds_succ]
      go_wp2
      go_ret
      exact ⟨rfl, 0, rfl⟩
    · have hne : eP es ≠ [] := by intro h; have := congrArg List.length h; rw [eP_length, hn] at this; simp at this; omega
      have hne' : eP fs ≠ [] := by intro h; have := congrArg List.length h; rw [eP_length, hm] at this; simp at this; omega
      obtain ⟨b, off, rfl, hlt, hc⟩ := hr.lt hne
      obtain ⟨b', off', rfl, hlt', hc'⟩ := hr'.lt hne'
      have HC : Hid _ := hc
      have HC' : Hid _ := hc'
      have hn' : Hid (es.length = n) := hn
      have hm' : Hid (fs.length = n) := hm
      clear hr hr' hne hne' hc hc' hn hm
      go_enter Try.func60, Try.ntmps60
      go_wp2
      go_loopw [13] (fun i wr => ∃ k d : Nat, k ≤ n ∧ i = .int .i64 k ∧ wr = w.drewN d ∧ Hid (∀ j, (h : j < es.length) → (h' : j < fs.length) → j < k → es[j] = fs[j])) (fun i _ => n - (intOf i).toNat)
      case atStart => exact ⟨0, 0, Nat.zero_le _, rfl, rfl, fun j _ _ hj => by omega⟩
      case round =>
        obtain ⟨k, d, hk, rfl, hwr0, hall⟩ := hrel
        have hwr : Hid (wr = w.drewN d) := hwr0
        have hcells : ∀ p, wr.cell? p = w.cell? p := fun p => by rw [hwr0]; rfl
        clear hwr0
        by_cases hkn : k < n
        · have hkl : k < es.length := by rw [hn'.out]; exact hkn
          have hkl' : k < fs.length := by rw [hm'.out]; exact hkn
          have hki : (k : Int) < (n : Int) := by omega
          have hx := HC.out k (by rw [eP_length]; exact hkl)
          have hy := HC'.out k (by rw [eP_length]; exact hkl')
          rw [eP_at es k hkl] at hx
          rw [eP_at fs k hkl'] at hy
          have hpe := pairE_eq es[k] fs[k]
          have hyes : es[k] = fs[k] → ∀ j, (h : j < es.length) → (h' : j < fs.length) → j < k + 1 → es[j] = fs[j] := by
            intro e j h h' hj
            rcases (show j < k ∨ j = k by omega) with hj | rfl
            · exact hall.out j h h' hj
            · exact e
          have hno : es[k] ≠ fs[k] → decide (es = fs) = false := fun e => decide_eq_false (fun e' => e (by subst e'; rfl))
          obtain ⟨z, hz⟩ : ∃ z, es[k].1 = z := ⟨_, rfl⟩
          obtain ⟨u, hu⟩ : ∃ u, es[k].2 = u := ⟨_, rfl⟩
          obtain ⟨z', hz'⟩ : ∃ z, fs[k].1 = z := ⟨_, rfl⟩
          obtain ⟨u', hu'⟩ : ∃ u, fs[k].2 = u := ⟨_, rfl⟩
          rw [hz, hu] at hx
          rw [hz', hu'] at hy
          rw [hz, hz', hu, hu'] at hpe
          obtain ⟨x1, x2⟩ := hx
          obtain ⟨y1, y2⟩ := hy
          dsimp only at x1 x2 y1 y2
          rw [← hcells] at x1 x2 y1 y2
          have HNO : Hid _ := hno
          have HYES : Hid _ := hyes
          have hneq := neqEnt z z' u u'
          have hgd := guardEnt .neq
          rw [hpe] at hneq
          by_cases heq : es[k] = fs[k]
          · rw [decide_eq_true heq] at hneq
            have hnx : Hid _ := HYES.out heq
            clear HNO HYES hno hyes hpe hz hz' hu hu' heq hcells hall
            go_wp2
            go_quiet (fail)
            go_wp2
            go_roundw
            case rel => exact ⟨k + 1, d + nq, by omega, by go_num, by rw [hwr.out, World.drewN_drewN], hnx⟩
            case measure => simp [intOf]; omega
          · rw [decide_eq_false heq] at hneq
            have hfin : Hid _ := HNO.out heq
            clear HNO HYES hno hyes hpe hz hz' hu hu' heq hcells hall
            go_wp2
            go_quiet (fail)
            go_wp2
            go_ret
            exact ⟨ret_bool hfin.out.symm, d + nq, by rw [hwr.out, World.drewN_drewN]⟩
        · have hki : ¬ (k : Int) < (n : Int) := by omega
          have hfin : Hid (decide (es = fs) = true) := decide_eq_true (List.ext_getElem (by rw [hn'.out, hm'.out]) (fun j h h' => hall.out j h h' (by rw [hn'.out] at h; omega)))
          clear hcells hall
          go_wp2
          go_ret
          exact ⟨ret_bool hfin.out.symm, d, hwr.out⟩
  · have hne : Hid (decide (es = fs) = false) := decide_eq_false (fun e => hnm (by rw [← hn, ← hm, e]))
    have hnm' : ((n : Int) == (m : Int)) = false := by simp; omega
    clear hr hr' hn hm hnm
    go_enter Try.func60, Try.ntmps60
    go_wp2
    go_ret
    exact ⟨ret_bool hne.out.symm, 0, rfl⟩
theorem pairA_eq (p q : ByteArray × ByteArray) : (p.1.toList == q.1.toList && p.2.toList == q.2.toList) = decide (p = q) := by
  by_cases h : p = q
  · subst h; simp
  · rw [decide_eq_false h]
    by_cases h1 : p.1 = q.1
    · have h2 : ¬ p.2 = q.2 := fun e => h (Prod.ext h1 e)
      rw [bytes_ne h2]; simp
    · rw [bytes_ne h1]; rfl
set_option maxHeartbeats 2000000 in
theorem eqSA_any (a a' : Option Addr) (n m cap cap' : Nat) (es fs : List (ByteArray × ByteArray)) (w : World) (hn : es.length = n) (hm : fs.length = m) (hs : n ≤ 4000000) (hs' : m ≤ 4000000) (hr : RdP w a (aP es)) (hr' : RdP w a' (aP fs)) :
    Calls Try.prog 61 #[.slice a n cap, .slice a' m cap'] w fun e w' => e = .returned (.bool (decide (es = fs))) ∧ ∃ d, w' = w.drewN d := by
  by_cases hnm : n = m
  · subst hnm
    by_cases h0 : n = 0
    · subst h0
      obtain rfl : es = [] := List.length_eq_zero_iff.1 hn
      obtain rfl : fs = [] := List.length_eq_zero_iff.1 hm
      go_enter Try.func61, Try.ntmps61
      go_wp2
      refine wp_loop_rounds 1 ?_; rw [rounds_succ]
      go_wp2
      go_ret
      exact ⟨rfl, 0, rfl⟩
    · have hne : aP es ≠ [] := by intro h; have := congrArg List.length h; rw [aP_length, hn] at this; simp at this; omega
      have hne' : aP fs ≠ [] := by intro h; have := congrArg List.length h; rw [aP_length, hm] at this; simp at this; omega
      obtain ⟨b, off, rfl, hlt, hc⟩ := hr.lt hne
      obtain ⟨b', off', rfl, hlt', hc'⟩ := hr'.lt hne'
      have HC : Hid _ := hc
      have HC' : Hid _ := hc'
      have hn' : Hid (es.length = n) := hn
      have hm' : Hid (fs.length = n) := hm
      clear hr hr' hne hne' hc hc' hn hm
      go_enter Try.func61, Try.ntmps61
      go_wp2
      go_loopw [13] (fun i wr => ∃ k d : Nat, k ≤ n ∧ i = .int .i64 k ∧ wr = w.drewN d ∧ Hid (∀ j, (h : j < es.length) → (h' : j < fs.length) → j < k → es[j] = fs[j])) (fun i _ => n - (intOf i).toNat)
      case atStart => exact ⟨0, 0, Nat.zero_le _, rfl, rfl, fun j _ _ hj => by omega⟩
      case round =>
        obtain ⟨k, d, hk, rfl, hwr0, hall⟩ := hrel
        have hwr : Hid (wr = w.drewN d) := hwr0
        have hcells : ∀ p, wr.cell? p = w.cell? p := fun p => by rw [hwr0]; rfl
        clear hwr0
        by_cases hkn : k < n
        · have hkl : k < es.length := by rw [hn'.out]; exact hkn
          have hkl' : k < fs.length := by rw [hm'.out]; exact hkn
          have hki : (k : Int) < (n : Int) := by omega
          have hx := HC.out k (by rw [aP_length]; exact hkl)
          have hy := HC'.out k (by rw [aP_length]; exact hkl')
          rw [aP_at es k hkl] at hx
          rw [aP_at fs k hkl'] at hy
          have hpe := pairA_eq es[k] fs[k]
          have hyes : es[k] = fs[k] → ∀ j, (h : j < es.length) → (h' : j < fs.length) → j < k + 1 → es[j] = fs[j] := by
            intro e j h h' hj
            rcases (show j < k ∨ j = k by omega) with hj | rfl
            · exact hall.out j h h' hj
            · exact e
          have hno : es[k] ≠ fs[k] → decide (es = fs) = false := fun e => decide_eq_false (fun e' => e (by subst e'; rfl))
          obtain ⟨z, hz⟩ : ∃ z, es[k].1 = z := ⟨_, rfl⟩
          obtain ⟨u, hu⟩ : ∃ u, es[k].2 = u := ⟨_, rfl⟩
          obtain ⟨z', hz'⟩ : ∃ z, fs[k].1 = z := ⟨_, rfl⟩
          obtain ⟨u', hu'⟩ : ∃ u, fs[k].2 = u := ⟨_, rfl⟩
          rw [hz, hu] at hx
          rw [hz', hu'] at hy
          rw [hz, hz', hu, hu'] at hpe
          obtain ⟨x1, x2⟩ := hx
          obtain ⟨y1, y2⟩ := hy
          dsimp only at x1 x2 y1 y2
          rw [← hcells] at x1 x2 y1 y2
          have HNO : Hid _ := hno
          have HYES : Hid _ := hyes
          have hneq := neqAttr z z' u u'
          have hgd := guardAttr .neq
          rw [hpe] at hneq
          by_cases heq : es[k] = fs[k]
          · rw [decide_eq_true heq] at hneq
            have hnx : Hid _ := HYES.out heq
            clear HNO HYES hno hyes hpe hz hz' hu hu' heq hcells hall
            go_wp2
            go_quiet (fail)
            go_wp2
            go_roundw
            case rel => exact ⟨k + 1, d + nq, by omega, by go_num, by rw [hwr.out, World.drewN_drewN], hnx⟩
            case measure => simp [intOf]; omega
          · rw [decide_eq_false heq] at hneq
            have hfin : Hid _ := HNO.out heq
            clear HNO HYES hno hyes hpe hz hz' hu hu' heq hcells hall
            go_wp2
            go_quiet (fail)
            go_wp2
            go_ret
            exact ⟨ret_bool hfin.out.symm, d + nq, by rw [hwr.out, World.drewN_drewN]⟩
        · have hki : ¬ (k : Int) < (n : Int) := by omega
          have hfin : Hid (decide (es = fs) = true) := decide_eq_true (List.ext_getElem (by rw [hn'.out, hm'.out]) (fun j h h' => hall.out j h h' (by rw [hn'.out] at h; omega)))
          clear hcells hall
          go_wp2
          go_ret
          exact ⟨ret_bool hfin.out.symm, d, hwr.out⟩
  · have hne : Hid (decide (es = fs) = false) := decide_eq_false (fun e => hnm (by rw [← hn, ← hm, e]))
    have hnm' : ((n : Int) == (m : Int)) = false := by simp; omega
    clear hr hr' hn hm hnm
    go_enter Try.func61, Try.ntmps61
    go_wp2
    go_ret
    exact ⟨ret_bool hne.out.symm, 0, rfl⟩
end Go.Proofs.Ytfjlemnohjnkhaa
