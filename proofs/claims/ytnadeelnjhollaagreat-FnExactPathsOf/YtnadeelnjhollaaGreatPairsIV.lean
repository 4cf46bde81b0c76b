/-
  What the program's entsOk and attrsOk answer.
-/
import Derived.Test.YtnadeelnjhollaaGreatASCV
namespace Go.Proofs.YtnadeelnjhollaaGreat
open Go.RowKit
theorem all_and2 (p q : Nat → Bool) (l : List Nat) : l.all (fun i => p i && q i) = (l.all p && l.all q) := by
  induction l with
  | nil => rfl
  | cons x l ih => simp only [List.all_cons, ih]; cases p x <;> cases q x <;> simp
def selfE (es : List (ByteArray × Int)) (i : Nat) : Bool := nameOk (es.getD i entD).1.data.toList && (decide (2 ≤ (es.getD i entD).2) && decide ((es.getD i entD).2 ≤ 1000))
theorem entsOk_parts (es : List (ByteArray × Int)) : entsOk es = ((List.range es.length).all (selfE es) && ascE es && decide (es.length ≤ 10)) := by
  unfold entsOk ascE
  rw [← all_and2]
  rfl
set_option maxHeartbeats 2000000 in
theorem implE_any (a : Option Addr) (n cap : Nat) (es : List (ByteArray × Int)) (w : World) (hn : es.length = n) (hs : n ≤ 1048576) (hsz : ∀ q ∈ es, q.1.size ≤ 1048576) (hr : RdP w a (eP es)) :
    Calls Tryz.prog 106 #[.slice a n cap] w fun e w' => e = .returned (.bool (entsOk es)) ∧ Below w.heap.size w w' := by
  have hlast : entsOk es = ((List.range n).all (selfE es) && ascE es && decide (n ≤ 10)) := by rw [entsOk_parts, hn]
  by_cases h10 : 10 < n
  · have h10' : (10 : Int) < (n : Int) := by omega
    have hfin : Hid (entsOk es = false) := by show _ = _; rw [hlast, decide_eq_false (by omega : ¬ n ≤ 10)]; simp
    go_enter Tryz.func106, Tryz.ntmps106
    go_wp2
    go_ret
    exact ⟨ret_bool hfin.out.symm, Below.refl _ _⟩
  have h10' : ¬ (10 : Int) < (n : Int) := by omega
  have hdm : decide (n ≤ 10) = true := decide_eq_true (by omega)
  have HR : Hid _ := hr
  by_cases h0 : n = 0
  · subst h0
    obtain rfl : es = [] := List.length_eq_zero_iff.1 hn
    go_enter Tryz.func106, Tryz.ntmps106
    go_wp2
    refine wp_loop_rounds 1 ?_; rw [rounds_succ]
    go_wp2_with fail
    refine (ascE_any a 0 cap [] w rfl (by omega) HR.out).mono ?_
    rintro e w1 ⟨rfl, b1⟩
    go_wp2
    go_ret
    exact ⟨rfl, b1⟩
  · have hne : eP es ≠ [] := by intro h; have := congrArg List.length h; rw [eP_length, hn] at this; simp at this; omega
    obtain ⟨b, off, rfl, hlt, hc⟩ := hr.lt hne
    have HC : Hid _ := hc
    have hn' : Hid (es.length = n) := hn
    have HL : Hid _ := hlast
    clear hr hne hc hn hlast
    go_enter Tryz.func106, Tryz.ntmps106
    go_wp2
    go_loopw [10] (fun i wr => ∃ k : Nat, k ≤ n ∧ i = .int .i64 k ∧ Below w.heap.size w wr ∧ Hid (∀ j, j < k → selfE es j = true)) (fun i _ => n - (intOf i).toNat)
    case atStart => exact ⟨0, Nat.zero_le _, rfl, Below.refl _ _, fun j hj => by omega⟩
    case round =>
      obtain ⟨k, hk, rfl, hB, hall⟩ := hrel
      have hbs := hB.size
      by_cases hkn : k < n
      · have hkl : k < es.length := by rw [hn'.out]; exact hkn
        have hki : (k : Int) < (n : Int) := by omega
        have hx := HC.out k (by rw [eP_length]; exact hkl)
        rw [eP_at es k hkl] at hx
        have hzs := hsz es[k] (List.getElem_mem hkl)
        have hat : selfE es k = (nameOk es[k].1.data.toList && (decide (2 ≤ es[k].2) && decide (es[k].2 ≤ 1000))) := by
          unfold selfE
          have e : es.getD k entD = es[k] := by simp [hkl]
          rw [e]
        have hno : selfE es k = false → entsOk es = false := fun h => by rw [HL.out, all_range_false hkn h]; rfl
        have hyes : selfE es k = true → ∀ j, j < k + 1 → selfE es j = true := by
          intro h j hj
          rcases (show j < k ∨ j = k by omega) with hj | rfl
          · exact hall.out j hj
          · exact h
        obtain ⟨z, hz⟩ : ∃ z, es[k].1 = z := ⟨_, rfl⟩
        obtain ⟨u, hu⟩ : ∃ u, es[k].2 = u := ⟨_, rfl⟩
        rw [hz, hu] at hx hat
        rw [hz] at hzs
        have x1 : wr.cell? ⟨b, off + k * 2, none⟩ = _ := (hB.cell (by exact hlt)).trans hx.1
        have x2 : wr.cell? ⟨b, off + k * 2 + 1, none⟩ = _ := (hB.cell (by exact hlt)).trans hx.2
        dsimp only at x1 x2
        have HNO : Hid _ := hno
        have HYES : Hid _ := hyes
        have HAT : Hid _ := hat
        clear hno hyes hat hall hz hu hx
        cases hnm : nameOk z.data.toList with
        | false =>
          have hN : ∀ W : World, Calls Tryz.prog 148 #[.string z] W fun e w' => e = .returned (.bool false) ∧ w' = W := fun W => by rw [← hnm]; exact nameI z W (by omega)
          have hfin : Hid (entsOk es = false) := HNO.out (by rw [HAT.out, hnm]; rfl)
          clear HNO HYES HAT
          go_wp2_with fail
          refine (hN _).mono ?_
          rintro e w1 ⟨rfl, rfl⟩
          go_wp2
          go_ret
          exact ⟨ret_bool hfin.out.symm, hB.alloc hbs _⟩
        | true =>
          have hN : ∀ W : World, Calls Tryz.prog 148 #[.string z] W fun e w' => e = .returned (.bool true) ∧ w' = W := fun W => by rw [← hnm]; exact nameI z W (by omega)
          rcases (show u ≤ 1 ∨ (1 < u ∧ 1000 < u) ∨ (1 < u ∧ u ≤ 1000) by omega) with hq | ⟨hq, hq2⟩ | ⟨hq, hq2⟩
          · have hfin : Hid (entsOk es = false) := HNO.out (by rw [HAT.out, hnm]; simp; omega)
            clear HNO HYES HAT
            go_wp2_with fail
            refine (hN _).mono ?_
            rintro e w1 ⟨rfl, rfl⟩
            go_wp2
            go_ret
            exact ⟨ret_bool hfin.out.symm, hB.alloc hbs _⟩
          · have hq' : ¬ u ≤ 1 := by omega
            have hfin : Hid (entsOk es = false) := HNO.out (by rw [HAT.out, hnm]; simp; omega)
            clear HNO HYES HAT
            go_wp2_with fail
            refine (hN _).mono ?_
            rintro e w1 ⟨rfl, rfl⟩
            go_wp2
            go_ret
            exact ⟨ret_bool hfin.out.symm, hB.alloc hbs _⟩
          · have hq' : ¬ u ≤ 1 := by omega
            have hq2' : ¬ 1000 < u := by omega
            have hnx : Hid _ := HYES.out (by rw [HAT.out, hnm]; simp; omega)
            clear HNO HYES HAT
            go_wp2_with fail
            refine (hN _).mono ?_
            rintro e w1 ⟨rfl, rfl⟩
            go_wp2
            go_roundw
            case rel => exact ⟨k + 1, by omega, by go_num, hB.alloc hbs _, hnx⟩
            case measure => simp [intOf]; omega
      · have hki : ¬ (k : Int) < (n : Int) := by omega
        obtain rfl : k = n := by omega
        have hfin : Hid (entsOk es = ascE es) := by show _ = _; rw [HL.out, all_range_true hall.out, hdm]; simp
        go_wp2_with fail
        refine (ascE_any _ k cap es wr hn'.out (by omega) (RdP.keep HR.out hB)).mono ?_
        rintro e w1 ⟨rfl, b1⟩
        go_wp2
        go_ret
        exact ⟨ret_bool hfin.out.symm, hB.trans (b1.mono hbs)⟩
def selfA (es : List (ByteArray × ByteArray)) (i : Nat) : Bool := nameOk (es.getD i attD).1.data.toList && decide ((es.getD i attD).2.size ≤ 16)
theorem attsOk_parts (es : List (ByteArray × ByteArray)) : attsOk es = ((List.range es.length).all (selfA es) && ascA es && decide (es.length ≤ 4)) := by
  unfold attsOk ascA
  rw [← all_and2]
  rfl
set_option maxHeartbeats 2000000 in
theorem implA_any (a : Option Addr) (n cap : Nat) (es : List (ByteArray × ByteArray)) (w : World) (hn : es.length = n) (hs : n ≤ 1048576) (hsz : ∀ q ∈ es, q.1.size ≤ 1048576 ∧ q.2.size ≤ 1048576) (hr : RdP w a (aP es)) :
    Calls Tryz.prog 107 #[.slice a n cap] w fun e w' => e = .returned (.bool (attsOk es)) ∧ Below w.heap.size w w' := by
  have hlast : attsOk es = ((List.range n).all (selfA es) && ascA es && decide (n ≤ 4)) := by rw [attsOk_parts, hn]
  by_cases h10 : 4 < n
  · have h10' : (4 : Int) < (n : Int) := by omega
    have hfin : Hid (attsOk es = false) := by show _ = _; rw [hlast, decide_eq_false (by omega : ¬ n ≤ 4)]; simp
    go_enter Tryz.func107, Tryz.ntmps107
    go_wp2
    go_ret
    exact ⟨ret_bool hfin.out.symm, Below.refl _ _⟩
  have h10' : ¬ (4 : Int) < (n : Int) := by omega
  have hdm : decide (n ≤ 4) = true := decide_eq_true (by omega)
  have HR : Hid _ := hr
  by_cases h0 : n = 0
  · subst h0
    obtain rfl : es = [] := List.length_eq_zero_iff.1 hn
    go_enter Tryz.func107, Tryz.ntmps107
    go_wp2
    refine wp_loop_rounds 1 ?_; rw [rounds_succ]
    go_wp2_with fail
    refine (ascA_any a 0 cap [] w rfl (by omega) HR.out).mono ?_
    rintro e w1 ⟨rfl, b1⟩
    go_wp2
    go_ret
    exact ⟨rfl, b1⟩
  · have hne : aP es ≠ [] := by intro h; have := congrArg List.length h; rw [aP_length, hn] at this; simp at this; omega
    obtain ⟨b, off, rfl, hlt, hc⟩ := hr.lt hne
    have HC : Hid _ := hc
    have hn' : Hid (es.length = n) := hn
    have HL : Hid _ := hlast
    clear hr hne hc hn hlast
    go_enter Tryz.func107, Tryz.ntmps107
    go_wp2
    go_loopw [10] (fun i wr => ∃ k : Nat, k ≤ n ∧ i = .int .i64 k ∧ Below w.heap.size w wr ∧ Hid (∀ j, j < k → selfA es j = true)) (fun i _ => n - (intOf i).toNat)
    case atStart => exact ⟨0, Nat.zero_le _, rfl, Below.refl _ _, fun j hj => by omega⟩
    case round =>
      obtain ⟨k, hk, rfl, hB, hall⟩ := hrel
      have hbs := hB.size
      by_cases hkn : k < n
      · have hkl : k < es.length := by rw [hn'.out]; exact hkn
        have hki : (k : Int) < (n : Int) := by omega
        have hx := HC.out k (by rw [aP_length]; exact hkl)
        rw [aP_at es k hkl] at hx
        obtain ⟨hzs, hus⟩ := hsz es[k] (List.getElem_mem hkl)
        have hat : selfA es k = (nameOk es[k].1.data.toList && decide (es[k].2.size ≤ 16)) := by
          unfold selfA
          have e : es.getD k attD = es[k] := by simp [hkl]
          rw [e]
        have hno : selfA es k = false → attsOk es = false := fun h => by rw [HL.out, all_range_false hkn h]; rfl
        have hyes : selfA es k = true → ∀ j, j < k + 1 → selfA es j = true := by
          intro h j hj
          rcases (show j < k ∨ j = k by omega) with hj | rfl
          · exact hall.out j hj
          · exact h
        obtain ⟨z, hz⟩ : ∃ z, es[k].1 = z := ⟨_, rfl⟩
        obtain ⟨u, hu⟩ : ∃ u, es[k].2 = u := ⟨_, rfl⟩
        rw [hz, hu] at hx hat
        rw [hz] at hzs
        rw [hu] at hus
        have x1 : wr.cell? ⟨b, off + k * 2, none⟩ = _ := (hB.cell (by exact hlt)).trans hx.1
        have x2 : wr.cell? ⟨b, off + k * 2 + 1, none⟩ = _ := (hB.cell (by exact hlt)).trans hx.2
        dsimp only at x1 x2
        have HNO : Hid _ := hno
        have HYES : Hid _ := hyes
        have HAT : Hid _ := hat
        clear hno hyes hat hall hz hu hx
        cases hnm : nameOk z.data.toList with
        | false =>
          have hN : ∀ W : World, Calls Tryz.prog 148 #[.string z] W fun e w' => e = .returned (.bool false) ∧ w' = W := fun W => by rw [← hnm]; exact nameI z W (by omega)
          have hfin : Hid (attsOk es = false) := HNO.out (by rw [HAT.out, hnm]; rfl)
          clear HNO HYES HAT
          go_wp2_with fail
          refine (hN _).mono ?_
          rintro e w1 ⟨rfl, rfl⟩
          go_wp2
          go_ret
          exact ⟨ret_bool hfin.out.symm, hB.alloc hbs _⟩
        | true =>
          have hN : ∀ W : World, Calls Tryz.prog 148 #[.string z] W fun e w' => e = .returned (.bool true) ∧ w' = W := fun W => by rw [← hnm]; exact nameI z W (by omega)
          rcases (show 16 < u.size ∨ u.size ≤ 16 by omega) with hq | hq
          · have hq' : (16 : Int) < (u.size : Int) := by omega
            have hfin : Hid (attsOk es = false) := HNO.out (by rw [HAT.out, hnm]; simp; omega)
            clear HNO HYES HAT
            go_wp2_with fail
            refine (hN _).mono ?_
            rintro e w1 ⟨rfl, rfl⟩
            go_wp2
            go_ret
            exact ⟨ret_bool hfin.out.symm, hB.alloc hbs _⟩
          · have hq' : ¬ (16 : Int) < (u.size : Int) := by omega
            have hnx : Hid _ := HYES.out (by rw [HAT.out, hnm]; simp; omega)
            clear HNO HYES HAT
            go_wp2_with fail
            refine (hN _).mono ?_
            rintro e w1 ⟨rfl, rfl⟩
            go_wp2
            go_roundw
            case rel => exact ⟨k + 1, by omega, by go_num, hB.alloc hbs _, hnx⟩
            case measure => simp [intOf]; omega
      · have hki : ¬ (k : Int) < (n : Int) := by omega
        obtain rfl : k = n := by omega
        have hfin : Hid (attsOk es = ascA es) := by show _ = _; rw [HL.out, all_range_true hall.out, hdm]; simp
        go_wp2_with fail
        refine (ascA_any _ k cap es wr hn'.out (by omega) (RdP.keep HR.out hB)).mono ?_
        rintro e w1 ⟨rfl, b1⟩
        go_wp2
        go_ret
        exact ⟨ret_bool hfin.out.symm, hB.trans (b1.mono hbs)⟩
end Go.Proofs.YtnadeelnjhollaaGreat
