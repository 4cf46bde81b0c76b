/-
  The program's ascendingBy over attributes.
-/
import Derived.Test.YtbjfihabkpianaaGreatDoorJ01E
import Derived.Test.YtbjfihabkpianaaGreatDoorEntsOkE
import Derived.Test.YtbjfihabkpianaaGreatDoorAttsOkE
namespace Go.Proofs.YtbjfihabkpianaaGreatDoor
open Go.RowKit
theorem attrName_any (z x : ByteArray) (w : World) : Calls Tryz.prog 217 #[.agg #[.string z, .string x]] w fun e w' => e = .returned (.string z) ∧ Below w.heap.size w w' := by
  go_enter Tryz.func217, Tryz.ntmps217
  go_wp2
  go_ret
  exact ⟨rfl, (Below.refl _ w).alloc (Nat.le_refl _) _⟩
/-- All ascend from the second one on. -/
def ascA (es : List (ByteArray × ByteArray)) : Bool := (List.range es.length).all fun i => decide (i = 0) || Op.bytesLess (es.getD (i - 1) attD).1.toList (es.getD i attD).1.toList
set_option maxHeartbeats 2000000 in
theorem ascA_any (a : Option Addr) (n cap : Nat) (es : List (ByteArray × ByteArray)) (w : World) (hn : es.length = n) (hs : n ≤ 1048576) (hr : RdP w a (aP es)) :
    Calls Tryz.prog 224 #[.slice a n cap, .func (.func 217) #[] #[]] w fun e w' => e = .returned (.bool (ascA es)) ∧ Below w.heap.size w w' := by
  have hlast : ascA es = (List.range n).all fun i => decide (i = 0) || Op.bytesLess (es.getD (i - 1) attD).1.toList (es.getD i attD).1.toList := by unfold ascA; rw [hn]
  by_cases h0 : n ≤ 1
  · have hfin : Hid (ascA es = true) := by
      show _ = _
      rw [hlast]
      exact all_range_true (fun k hk => by obtain rfl := (show k = 0 by omega); rfl)
    have h01 : ¬ (1 : Int) < (n : Int) := by omega
    go_enter Tryz.func224, Tryz.ntmps224
    go_wp2
    refine wp_loop_rounds 1 ?_; rw [rounds_succ]
    go_wp2
    go_ret
    exact ⟨ret_bool hfin.out.symm, Below.refl _ _⟩
  · have hne : aP es ≠ [] := by intro h; have := congrArg List.length h; rw [aP_length, hn] at this; simp at this; omega
    obtain ⟨b, off, rfl, hlt, hc⟩ := hr.lt hne
    have HC : Hid _ := hc
    have hn' : Hid (es.length = n) := hn
    have HL : Hid _ := hlast
    clear hr hne hc hn hlast
    go_enter Tryz.func224, Tryz.ntmps224
    go_wp2
    go_loopw [5] (fun i wr => ∃ k : Nat, k + 1 ≤ n ∧ i = .int .i64 ((k + 1 : Nat) : Int) ∧ Below w.heap.size w wr ∧ Hid (∀ j, j < k + 1 → (decide (j = 0) || Op.bytesLess (es.getD (j - 1) attD).1.toList (es.getD j attD).1.toList) = true)) (fun i _ => n - (intOf i).toNat)
    case atStart => exact ⟨0, by omega, rfl, Below.refl _ _, fun j hj => by obtain rfl := (show j = 0 by omega); rfl⟩
    case round =>
      obtain ⟨k, hk, rfl, hB, hall⟩ := hrel
      have hbs := hB.size
      by_cases hkn : k + 1 < n
      · have hkl : k < es.length := by rw [hn'.out]; omega
        have hkl1 : k + 1 < es.length := by rw [hn'.out]; exact hkn
        have hki : ((k + 1 : Nat) : Int) < (n : Int) := by omega
        have hki0 : (k : Int) < (n : Int) := by omega
        have hk0 : (0 : Int) ≤ (k : Int) := by omega
        have hwk : IntKind.i64.wrap (k : Int) = (k : Int) := wrap_small _ hk0 (by omega)
        have hx := HC.out k (by rw [aP_length]; exact hkl)
        have hy := HC.out (k + 1) (by rw [aP_length]; exact hkl1)
        rw [aP_at es k hkl] at hx
        rw [aP_at es (k + 1) hkl1] at hy
        have hat : (decide (k + 1 = 0) || Op.bytesLess (es.getD (k + 1 - 1) attD).1.toList (es.getD (k + 1) attD).1.toList) = Op.bytesLess es[k].1.toList es[k + 1].1.toList := by simp [hkl, hkl1]
        obtain ⟨z, hz⟩ : ∃ z, es[k].1 = z := ⟨_, rfl⟩
        obtain ⟨u, hu⟩ : ∃ u, es[k].2 = u := ⟨_, rfl⟩
        obtain ⟨z', hz'⟩ : ∃ z, es[k + 1].1 = z := ⟨_, rfl⟩
        obtain ⟨u', hu'⟩ : ∃ u, es[k + 1].2 = u := ⟨_, rfl⟩
        rw [hz, hz'] at hat
        rw [hz, hu] at hx
        rw [hz', hu'] at hy
        have x1 : wr.cell? ⟨b, off + k * 2, none⟩ = _ := (hB.cell (by exact hlt)).trans hx.1
        have x2 : wr.cell? ⟨b, off + k * 2 + 1, none⟩ = _ := (hB.cell (by exact hlt)).trans hx.2
        have y1 : wr.cell? ⟨b, off + (k + 1) * 2, none⟩ = _ := (hB.cell (by exact hlt)).trans hy.1
        have y2 : wr.cell? ⟨b, off + (k + 1) * 2 + 1, none⟩ = _ := (hB.cell (by exact hlt)).trans hy.2
        dsimp only at x1 x2 y1 y2
        have hblt : b < wr.heap.size := by omega
        have HX : Hid (wr.cell? ⟨b, off + k * 2, none⟩ = some (.string z) ∧ wr.cell? ⟨b, off + k * 2 + 1, none⟩ = some (.string u) ∧ wr.cell? ⟨b, off + (k + 1) * 2, none⟩ = some (.string z') ∧ wr.cell? ⟨b, off + (k + 1) * 2 + 1, none⟩ = some (.string u')) := ⟨x1, x2, y1, y2⟩
        have HAT : Hid _ := hat
        clear hx hy hz hz' hu hu' hat hkl hkl1
        cases hless : Op.bytesLess z.toList z'.toList with
        | false =>
          have hfin : Hid (ascA es = false) := by show _ = _; rw [HL.out]; exact all_range_false hkn (by rw [HAT.out, hless])
          clear HAT hall HL
          go_wp2
          go_region_with (first
            | (go_at_call 217; refine (attrName_any _ _ wr.drew).mono ?_; rintro e w1 ⟨rfl, b1⟩; have x1' : w1.cell? ⟨b, off + k * 2, none⟩ = _ := (b1.cell (by exact hblt)).trans HX.out.1; have x2' : w1.cell? ⟨b, off + k * 2 + 1, none⟩ = _ := (b1.cell (by exact hblt)).trans HX.out.2.1; have y1' : w1.cell? ⟨b, off + (k + 1) * 2, none⟩ = _ := (b1.cell (by exact hblt)).trans HX.out.2.2.1; have y2' : w1.cell? ⟨b, off + (k + 1) * 2 + 1, none⟩ = _ := (b1.cell (by exact hblt)).trans HX.out.2.2.2)
            | (go_at_call 217; refine (attrName_any _ _ w1).mono ?_; rintro e w2 ⟨rfl, b2⟩))
          all_goals go_wp2
          all_goals go_ret
          all_goals exact ⟨ret_bool hfin.out.symm, (hB.drew.trans (b1.mono hbs)).trans (b2.mono (Nat.le_trans hbs b1.size))⟩
        | true =>
          have hnx : Hid (∀ j, j < k + 1 + 1 → (decide (j = 0) || Op.bytesLess (es.getD (j - 1) attD).1.toList (es.getD j attD).1.toList) = true) := by
            intro j hj
            rcases (show j < k + 1 ∨ j = k + 1 by omega) with hj | rfl
            · exact hall.out j hj
            · rw [HAT.out, hless]
          clear HAT hall HL
          go_wp2
          go_region_with (first
            | (go_at_call 217; refine (attrName_any _ _ wr.drew).mono ?_; rintro e w1 ⟨rfl, b1⟩; have x1' : w1.cell? ⟨b, off + k * 2, none⟩ = _ := (b1.cell (by exact hblt)).trans HX.out.1; have x2' : w1.cell? ⟨b, off + k * 2 + 1, none⟩ = _ := (b1.cell (by exact hblt)).trans HX.out.2.1; have y1' : w1.cell? ⟨b, off + (k + 1) * 2, none⟩ = _ := (b1.cell (by exact hblt)).trans HX.out.2.2.1; have y2' : w1.cell? ⟨b, off + (k + 1) * 2 + 1, none⟩ = _ := (b1.cell (by exact hblt)).trans HX.out.2.2.2)
            | (go_at_call 217; refine (attrName_any _ _ w1).mono ?_; rintro e w2 ⟨rfl, b2⟩))
          all_goals go_wp2
          all_goals go_roundw
          all_goals first
            | (case rel => exact ⟨k + 1, by omega, by go_num, (hB.drew.trans (b1.mono hbs)).trans (b2.mono (Nat.le_trans hbs b1.size)), hnx⟩)
            | (case measure => simp [intOf]; omega)
      · have hki : ¬ ((k + 1 : Nat) : Int) < (n : Int) := by omega
        obtain rfl : k + 1 = n := by omega
        have hfin : Hid (ascA es = true) := by show _ = _; rw [HL.out]; exact all_range_true hall.out
        go_wp2
        go_ret
        exact ⟨ret_bool hfin.out.symm, hB⟩
end Go.Proofs.YtbjfihabkpianaaGreatDoor

