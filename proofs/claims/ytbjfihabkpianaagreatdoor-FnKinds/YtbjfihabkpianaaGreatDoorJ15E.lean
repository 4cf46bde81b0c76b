/-
  Joined: PairsI, InoOkI, TabOkI.
-/
import Derived.Test.YtbjfihabkpianaaGreatDoorAscIE
import Derived.Test.YtbjfihabkpianaaGreatDoorAscAE
import Derived.Test.YtbjfihabkpianaaGreatDoorInoOkE
import Derived.Test.YtbjfihabkpianaaGreatDoorAscTE
import Derived.Deep.CutBlock
namespace Go.Proofs.YtbjfihabkpianaaGreatDoor
section
open Go.RowKit
theorem all_and2 (p q : Nat → Bool) (l : List Nat) : l.all (fun i => p i && q i) = (l.all p && l.all q) := by
  induction l with
  | nil => rfl
  | cons x l ih => simp only [List.all_cons, ih]; cases p x <;> cases q x <;> simp
def selfE (es : List (ByteArray × Int)) (i : Nat) : Bool := nameOk (es.getD i entD).1.data.toList && (decide (2 ≤ (es.getD i entD).2) && decide ((es.getD i entD).2 ≤ 1000))
theorem entsOk_parts (es : List (ByteArray × Int)) : entsOk es = ((List.range es.length).all (selfE es) && ascE es && decide (es.length ≤ 10)) := by
  unfold entsOk ascE
  rw [← all_and2]
  rfl
set_option maxHeartbeats 2000000 in
theorem implE_any (a : Option Addr) (n cap : Nat) (es : List (ByteArray × Int)) (w : World) (hn : es.length = n) (hs : n ≤ 1048576) (hsz : ∀ q ∈ es, q.1.size ≤ 1048576) (hr : RdP w a (eP es)) :
    Calls Tryz.prog 168 #[.slice a n cap] w fun e w' => e = .returned (.bool (entsOk es)) ∧ Below w.heap.size w w' := by
  have hlast : entsOk es = ((List.range n).all (selfE es) && ascE es && decide (n ≤ 10)) := by rw [entsOk_parts, hn]
  by_cases h10 : 10 < n
  · have h10' : (10 : Int) < (n : Int) := by omega
    have hfin : Hid (entsOk es = false) := by show _ = _; rw [hlast, decide_eq_false (by omega : ¬ n ≤ 10)]; simp
    go_enter Tryz.func168, Tryz.ntmps168
    go_wp2
    go_ret
    exact ⟨ret_bool hfin.out.symm, Below.refl _ _⟩
  have h10' : ¬ (10 : Int) < (n : Int) := by omega
  have hdm : decide (n ≤ 10) = true := decide_eq_true (by omega)
  have HR : Hid _ := hr
  by_cases h0 : n = 0
  · subst h0
    obtain rfl : es = [] := List.length_eq_zero_iff.1 hn
    go_enter Tryz.func168, Tryz.ntmps168
    go_wp2
    refine wp_loop_rounds 1 ?_; rw [rounds_succ]
    go_wp2_with fail
    refine (ascE_any a 0 cap [] w rfl (by omega) HR.out).mono ?_
    rintro e w1 ⟨rfl, b1⟩
    go_wp2
    go_ret
    exact ⟨rfl, b1⟩
  · have hne : eP es ≠ [] := by intro h; have := congrArg List.length h; rw [eP_length, hn] at this; simp at this; omega
    obtain ⟨b, off, rfl, hlt, hc⟩ := hr.lt hne
    have HC : Hid _ := hc
    have hn' : Hid (es.length = n) := hn
    have HL : Hid _ := hlast
    clear hr hne hc hn hlast
    go_enter Tryz.func168, Tryz.ntmps168
    go_wp2
    go_loopw [10] (fun i wr => ∃ k : Nat, k ≤ n ∧ i = .int .i64 k ∧ Below w.heap.size w wr ∧ Hid (∀ j, j < k → selfE es j = true)) (fun i _ => n - (intOf i).toNat)
    case atStart => exact ⟨0, Nat.zero_le _, rfl, Below.refl _ _, fun j hj => by omega⟩
    case round =>
      obtain ⟨k, hk, rfl, hB, hall⟩ := hrel
      have hbs := hB.size
      by_cases hkn : k < n
      · have hkl : k < es.length := by rw [hn'.out]; exact hkn
        have hki : (k : Int) < (n : Int) := by omega
        have hx := HC.out k (by rw [eP_length]; exact hkl)
        rw [eP_at es k hkl] at hx
        have hzs := hsz es[k] (List.getElem_mem hkl)
        have hat : selfE es k = (nameOk es[k].1.data.toList && (decide (2 ≤ es[k].2) && decide (es[k].2 ≤ 1000))) := by
          unfold selfE
          have e : es.getD k entD = es[k] := by simp [hkl]
          rw [e]
        have hno : selfE es k = false → entsOk es = false := fun h => by rw [HL.out, all_range_false hkn h]; rfl
        have hyes : selfE es k = true → ∀ j, j < k + 1 → selfE es j = true := by
          intro h j hj
          rcases (show j < k ∨ j = k by omega) with hj | rfl
          · exact hall.out j hj
          · exact h
        obtain ⟨z, hz⟩ : ∃ z, es[k].1 = z := ⟨_, rfl⟩
        obtain ⟨u, hu⟩ : ∃ u, es[k].2 = u := ⟨_, rfl⟩
        rw [hz, hu] at hx hat
        rw [hz] at hzs
        have x1 : wr.cell? ⟨b, off + k * 2, none⟩ = _ := (hB.cell (by exact hlt)).trans hx.1
        have x2 : wr.cell? ⟨b, off + k * 2 + 1, none⟩ = _ := (hB.cell (by exact hlt)).trans hx.2
        dsimp only at x1 x2
        have HNO : Hid _ := hno
        have HYES : Hid _ := hyes
        have HAT : Hid _ := hat
        clear hno hyes hat hall hz hu hx
        cases hnm : nameOk z.data.toList with
        | false =>
          have hN : ∀ W : World, Calls Tryz.prog 138 #[.string z] W fun e w' => e = .returned (.bool false) ∧ w' = W := fun W => by rw [← hnm]; exact nameI z W (by omega)
          have hfin : Hid (entsOk es = false) := HNO.out (by rw [HAT.out, hnm]; rfl)
          clear HNO HYES HAT
          go_wp2_with fail
          refine (hN _).mono ?_
          rintro e w1 ⟨rfl, rfl⟩
          go_wp2
          go_ret
          exact ⟨ret_bool hfin.out.symm, hB.alloc hbs _⟩
        | true =>
          have hN : ∀ W : World, Calls Tryz.prog 138 #[.string z] W fun e w' => e = .returned (.bool true) ∧ w' = W := fun W => by rw [← hnm]; exact nameI z W (by omega)
          rcases (show u ≤ 1 ∨ (1 < u ∧ 1000 < u) ∨ (1 < u ∧ u ≤ 1000) by omega) with hq | ⟨hq, hq2⟩ | ⟨hq, hq2⟩
          · have hfin : Hid (entsOk es = false) := HNO.out (by rw [HAT.out, hnm]; simp; omega)
            clear HNO HYES HAT
            go_wp2_with fail
            refine (hN _).mono ?_
            rintro e w1 ⟨rfl, rfl⟩
            go_wp2
            go_ret
            exact ⟨ret_bool hfin.out.symm, hB.alloc hbs _⟩
          · have hq' : ¬ u ≤ 1 := by omega
            have hfin : Hid (entsOk es = false) := HNO.out (by rw [HAT.out, hnm]; simp; omega)
            clear HNO HYES HAT
            go_wp2_with fail
            refine (hN _).mono ?_
            rintro e w1 ⟨rfl, rfl⟩
            go_wp2
            go_ret
            exact ⟨ret_bool hfin.out.symm, hB.alloc hbs _⟩
          · have hq' : ¬ u ≤ 1 := by omega
            have hq2' : ¬ 1000 < u := by omega
            have hnx : Hid _ := HYES.out (by rw [HAT.out, hnm]; simp; omega)
            clear HNO HYES HAT
            go_wp2_with fail
            refine (hN _).mono ?_
            rintro e w1 ⟨rfl, rfl⟩
            go_wp2
            go_roundw
            case rel => exact ⟨k + 1, by omega, by go_num, hB.alloc hbs _, hnx⟩
            case measure => simp [intOf]; omega
      · have hki : ¬ (k : Int) < (n : Int) := by omega
        obtain rfl : k = n := by omega
        have hfin : Hid (entsOk es = ascE es) := by show _ = _; rw [HL.out, all_range_true hall.out, hdm]; simp
        go_wp2_with fail
        refine (ascE_any _ k cap es wr hn'.out (by omega) (RdP.keep HR.out hB)).mono ?_
        rintro e w1 ⟨rfl, b1⟩
        go_wp2
        go_ret
        exact ⟨ret_bool hfin.out.symm, hB.trans (b1.mono hbs)⟩
def selfA (es : List (ByteArray × ByteArray)) (i : Nat) : Bool := nameOk (es.getD i attD).1.data.toList && decide ((es.getD i attD).2.size ≤ 16)
theorem attsOk_parts (es : List (ByteArray × ByteArray)) : attsOk es = ((List.range es.length).all (selfA es) && ascA es && decide (es.length ≤ 4)) := by
  unfold attsOk ascA
  rw [← all_and2]
  rfl
set_option maxHeartbeats 2000000 in
theorem implA_any (a : Option Addr) (n cap : Nat) (es : List (ByteArray × ByteArray)) (w : World) (hn : es.length = n) (hs : n ≤ 1048576) (hsz : ∀ q ∈ es, q.1.size ≤ 1048576 ∧ q.2.size ≤ 1048576) (hr : RdP w a (aP es)) :
    Calls Tryz.prog 169 #[.slice a n cap] w fun e w' => e = .returned (.bool (attsOk es)) ∧ Below w.heap.size w w' := by
  have hlast : attsOk es = ((List.range n).all (selfA es) && ascA es && decide (n ≤ 4)) := by rw [attsOk_parts, hn]
  by_cases h10 : 4 < n
  · have h10' : (4 : Int) < (n : Int) := by omega
    have hfin : Hid (attsOk es = false) := by show _ = _; rw [hlast, decide_eq_false (by omega : ¬ n ≤ 4)]; simp
    go_enter Tryz.func169, Tryz.ntmps169
    go_wp2
    go_ret
    exact ⟨ret_bool hfin.out.symm, Below.refl _ _⟩
  have h10' : ¬ (4 : Int) < (n : Int) := by omega
  have hdm : decide (n ≤ 4) = true := decide_eq_true (by omega)
  have HR : Hid _ := hr
  by_cases h0 : n = 0
  · subst h0
    obtain rfl : es = [] := List.length_eq_zero_iff.1 hn
    go_enter Tryz.func169, Tryz.ntmps169
    go_wp2
    refine wp_loop_rounds 1 ?_; rw [rounds_succ]
    go_wp2_with fail
    refine (ascA_any a 0 cap [] w rfl (by omega) HR.out).mono ?_
    rintro e w1 ⟨rfl, b1⟩
    go_wp2
    go_ret
    exact ⟨rfl, b1⟩
  · have hne : aP es ≠ [] := by intro h; have := congrArg List.length h; rw [aP_length, hn] at this; simp at this; omega
    obtain ⟨b, off, rfl, hlt, hc⟩ := hr.lt hne
    have HC : Hid _ := hc
    have hn' : Hid (es.length = n) := hn
    have HL : Hid _ := hlast
    clear hr hne hc hn hlast
    go_enter Tryz.func169, Tryz.ntmps169
    go_wp2
    go_loopw [10] (fun i wr => ∃ k : Nat, k ≤ n ∧ i = .int .i64 k ∧ Below w.heap.size w wr ∧ Hid (∀ j, j < k → selfA es j = true)) (fun i _ => n - (intOf i).toNat)
    case atStart => exact ⟨0, Nat.zero_le _, rfl, Below.refl _ _, fun j hj => by omega⟩
    case round =>
      obtain ⟨k, hk, rfl, hB, hall⟩ := hrel
      have hbs := hB.size
      by_cases hkn : k < n
      · have hkl : k < es.length := by rw [hn'.out]; exact hkn
        have hki : (k : Int) < (n : Int) := by omega
        have hx := HC.out k (by rw [aP_length]; exact hkl)
        rw [aP_at es k hkl] at hx
        obtain ⟨hzs, hus⟩ := hsz es[k] (List.getElem_mem hkl)
        have hat : selfA es k = (nameOk es[k].1.data.toList && decide (es[k].2.size ≤ 16)) := by
          unfold selfA
          have e : es.getD k attD = es[k] := by simp [hkl]
          rw [e]
        have hno : selfA es k = false → attsOk es = false := fun h => by rw [HL.out, all_range_false hkn h]; rfl
        have hyes : selfA es k = true → ∀ j, j < k + 1 → selfA es j = true := by
          intro h j hj
          rcases (show j < k ∨ j = k by omega) with hj | rfl
          · exact hall.out j hj
          · exact h
        obtain ⟨z, hz⟩ : ∃ z, es[k].1 = z := ⟨_, rfl⟩
        obtain ⟨u, hu⟩ : ∃ u, es[k].2 = u := ⟨_, rfl⟩
        rw [hz, hu] at hx hat
        rw [hz] at hzs
        rw [hu] at hus
        have x1 : wr.cell? ⟨b, off + k * 2, none⟩ = _ := (hB.cell (by exact hlt)).trans hx.1
        have x2 : wr.cell? ⟨b, off + k * 2 + 1, none⟩ = _ := (hB.cell (by exact hlt)).trans hx.2
        dsimp only at x1 x2
        have HNO : Hid _ := hno
        have HYES : Hid _ := hyes
        have HAT : Hid _ := hat
        clear hno hyes hat hall hz hu hx
        cases hnm : nameOk z.data.toList with
        | false =>
          have hN : ∀ W : World, Calls Tryz.prog 138 #[.string z] W fun e w' => e = .returned (.bool false) ∧ w' = W := fun W => by rw [← hnm]; exact nameI z W (by omega)
          have hfin : Hid (attsOk es = false) := HNO.out (by rw [HAT.out, hnm]; rfl)
          clear HNO HYES HAT
          go_wp2_with fail
          refine (hN _).mono ?_
          rintro e w1 ⟨rfl, rfl⟩
          go_wp2
          go_ret
          exact ⟨ret_bool hfin.out.symm, hB.alloc hbs _⟩
        | true =>
          have hN : ∀ W : World, Calls Tryz.prog 138 #[.string z] W fun e w' => e = .returned (.bool true) ∧ w' = W := fun W => by rw [← hnm]; exact nameI z W (by omega)
          rcases (show 16 < u.size ∨ u.size ≤ 16 by omega) with hq | hq
          · have hq' : (16 : Int) < (u.size : Int) := by omega
            have hfin : Hid (attsOk es = false) := HNO.out (by rw [HAT.out, hnm]; simp; omega)
            clear HNO HYES HAT
            go_wp2_with fail
            refine (hN _).mono ?_
            rintro e w1 ⟨rfl, rfl⟩
            go_wp2
            go_ret
            exact ⟨ret_bool hfin.out.symm, hB.alloc hbs _⟩
          · have hq' : ¬ (16 : Int) < (u.size : Int) := by omega
            have hnx : Hid _ := HYES.out (by rw [HAT.out, hnm]; simp; omega)
            clear HNO HYES HAT
            go_wp2_with fail
            refine (hN _).mono ?_
            rintro e w1 ⟨rfl, rfl⟩
            go_wp2
            go_roundw
            case rel => exact ⟨k + 1, by omega, by go_num, hB.alloc hbs _, hnx⟩
            case measure => simp [intOf]; omega
      · have hki : ¬ (k : Int) < (n : Int) := by omega
        obtain rfl : k = n := by omega
        have hfin : Hid (attsOk es = ascA es) := by show _ = _; rw [HL.out, all_range_true hall.out, hdm]; simp
        go_wp2_with fail
        refine (ascA_any _ k cap es wr hn'.out (by omega) (RdP.keep HR.out hB)).mono ?_
        rintro e w1 ⟨rfl, b1⟩
        go_wp2
        go_ret
        exact ⟨ret_bool hfin.out.symm, hB.trans (b1.mono hbs)⟩
end

section
open Go.RowKit
def linkR (D : InoD) : Bool := if D.ino = 1 then decide (D.links = 0) else (decide (1 ≤ D.links) && decide (D.links ≤ 1000))
def kindI (D : InoD) : Bool := (decide (D.kind = 1) && (decide (D.data.length ≤ 100) && decide (D.ents.length = 0))) || (decide (D.kind = 2) && (decide (D.data.length = 0) && decide (D.links ≤ 1)))
theorem inoOk_parts (D : InoD) : inoOk D = ((decide (1 ≤ D.ino) && decide (D.ino ≤ 1000)) && linkR D && kindI D && entsOk D.ents && attsOk D.attrs) := by
  rw [Bool.eq_iff_iff]
  unfold inoOk linkR kindI kindR
  have hb : ((D.links == 0) == (D.ino == 1)) = true ↔ (D.links = 0 ↔ D.ino = 1) := by
    rw [beq_iff_eq, Bool.eq_iff_iff, beq_iff_eq, beq_iff_eq]
  simp only [Bool.and_eq_true, Bool.or_eq_true, decide_eq_true_eq, hb]
  by_cases h1 : D.ino = 1
  · rw [if_pos h1]
    simp only [decide_eq_true_eq]
    constructor
    · rintro ⟨⟨⟨⟨⟨⟨h, h'⟩, hl⟩, hd⟩, he⟩, ha⟩, hk⟩
      exact ⟨⟨⟨⟨h, hl.2 h1⟩, by omega⟩, he⟩, ha⟩
    · rintro ⟨⟨⟨⟨h, hl⟩, hk⟩, he⟩, ha⟩
      exact ⟨⟨⟨⟨⟨⟨h, by omega⟩, by omega⟩, by omega⟩, he⟩, ha⟩, by omega⟩
  · rw [if_neg h1]
    simp only [Bool.and_eq_true, decide_eq_true_eq]
    constructor
    · rintro ⟨⟨⟨⟨⟨⟨h, h'⟩, hl⟩, hd⟩, he⟩, ha⟩, hk⟩
      exact ⟨⟨⟨⟨h, by omega⟩, by omega⟩, he⟩, ha⟩
    · rintro ⟨⟨⟨⟨h, hl⟩, hk⟩, he⟩, ha⟩
      exact ⟨⟨⟨⟨⟨⟨h, by omega⟩, by omega⟩, by omega⟩, he⟩, ha⟩, by omega⟩
set_option maxHeartbeats 1000000 in
theorem linksOk_any (D : InoD) (a1 a2 a3 : Option Addr) (c1 c2 c3 : Nat) (w : World) :
    Calls Tryz.prog 166 #[inoV D a1 c1 a2 c2 a3 c3] w fun e w' => e = .returned (.bool (linkR D)) ∧ Below w.heap.size w w' := by
  have B0 : Below w.heap.size w (w.alloc (.cells (inoC D a1 c1 a2 c2 a3 c3) 68)) := (Below.refl _ w).alloc (Nat.le_refl _) _
  unfold inoC at B0
  unfold inoV
  by_cases h1 : D.ino = 1
  · have h1' : (D.ino == 1) = true := by rw [h1]; rfl
    by_cases h0 : D.links = 0
    · have h0' : (D.links == 0) = true := by rw [h0]; rfl
      have hf : Hid (linkR D = true) := by show _ = _; unfold linkR; rw [if_pos h1, decide_eq_true h0]
      clear h1 h0
      go_enter Tryz.func166, Tryz.ntmps166
      go_wp2
      go_ret
      exact ⟨ret_bool hf.out.symm, B0⟩
    · have h0' : (D.links == 0) = false := by simp [h0]
      have hf : Hid (linkR D = false) := by show _ = _; unfold linkR; rw [if_pos h1, decide_eq_false h0]
      clear h1 h0
      go_enter Tryz.func166, Tryz.ntmps166
      go_wp2
      go_ret
      exact ⟨ret_bool hf.out.symm, B0⟩
  · have h1' : (D.ino == 1) = false := by simp [h1]
    rcases (show D.links < 1 ∨ (1 ≤ D.links ∧ 1000 < D.links) ∨ (1 ≤ D.links ∧ D.links ≤ 1000) by omega) with h | ⟨h, h'⟩ | ⟨h, h'⟩
    · have hh : ¬ 1 ≤ D.links := by omega
      have hf : Hid (linkR D = false) := by show _ = _; unfold linkR; rw [if_neg h1, decide_eq_false hh]; rfl
      clear h1
      go_enter Tryz.func166, Tryz.ntmps166
      go_wp2
      go_ret
      exact ⟨ret_bool hf.out.symm, B0⟩
    · have hh : ¬ D.links ≤ 1000 := by omega
      have hf : Hid (linkR D = false) := by show _ = _; unfold linkR; rw [if_neg h1, decide_eq_true h, decide_eq_false hh]; rfl
      clear h1
      go_enter Tryz.func166, Tryz.ntmps166
      go_wp2
      go_ret
      exact ⟨ret_bool hf.out.symm, B0⟩
    · have hf : Hid (linkR D = true) := by show _ = _; unfold linkR; rw [if_neg h1, decide_eq_true h, decide_eq_true h']; rfl
      clear h1
      go_enter Tryz.func166, Tryz.ntmps166
      go_wp2
      go_ret
      exact ⟨ret_bool hf.out.symm, B0⟩
theorem nat0_false {n : Nat} (h : ¬ n = 0) : ((n : Int) == 0) = false := by simp; intro e; exact h (by simp [e])
theorem nat0_true {n : Nat} (h : n = 0) : ((n : Int) == 0) = true := by rw [h]; rfl
set_option maxHeartbeats 1000000 in
theorem kindOk_any (D : InoD) (a1 a2 a3 : Option Addr) (c1 c2 c3 : Nat) (w : World) (hd1 : D.data.length ≤ 1048576) (_ : D.ents.length ≤ 1048576) :
    Calls Tryz.prog 167 #[inoV D a1 c1 a2 c2 a3 c3] w fun e w' => e = .returned (.bool (kindI D)) ∧ Below w.heap.size w w' := by
  have B0 : Below w.heap.size w (w.alloc (.cells (inoC D a1 c1 a2 c2 a3 c3) 68)) := (Below.refl _ w).alloc (Nat.le_refl _) _
  unfold inoC at B0
  unfold inoV
  rcases (show D.kind = 1 ∨ D.kind = 2 ∨ (D.kind ≠ 1 ∧ D.kind ≠ 2) by omega) with hk | hk | ⟨hk, hk2⟩
  · have hk1 : (D.kind == 1) = true := by rw [hk]; rfl
    have hkr : Hid (kindI D = (decide (D.data.length ≤ 100) && decide (D.ents.length = 0))) := by show _ = _; unfold kindI; rw [hk]; simp
    clear hk
    by_cases hd : D.data.length ≤ 100
    · have hd' : (D.data.length : Int) ≤ 100 := by omega
      by_cases h0 : D.ents.length = 0
      · have h0' := nat0_true h0
        go_enter Tryz.func167, Tryz.ntmps167
        go_wp2
        go_ret
        exact ⟨ret_bool (by rw [hkr.out, decide_eq_true hd, decide_eq_true h0]; rfl), (Below.refl _ w).alloc (Nat.le_refl _) _⟩
      · have h0' := nat0_false h0
        go_enter Tryz.func167, Tryz.ntmps167
        go_wp2
        go_ret
        exact ⟨ret_bool (by rw [hkr.out, decide_eq_true hd, decide_eq_false h0]; rfl), (Below.refl _ w).alloc (Nat.le_refl _) _⟩
    · have hd' : ¬ (D.data.length : Int) ≤ 100 := by omega
      go_enter Tryz.func167, Tryz.ntmps167
      go_wp2
      go_ret
      exact ⟨ret_bool (by rw [hkr.out, decide_eq_false hd]; rfl), (Below.refl _ w).alloc (Nat.le_refl _) _⟩
  · have hk1 : (D.kind == 1) = false := by rw [hk]; rfl
    have hk2 : (D.kind == 2) = true := by rw [hk]; rfl
    have hkr : Hid (kindI D = (decide (D.data.length = 0) && decide (D.links ≤ 1))) := by show _ = _; unfold kindI; rw [hk]; simp
    clear hk
    by_cases h0 : D.data.length = 0
    · have h0' := nat0_true h0
      by_cases hl : D.links ≤ 1
      · have hf : Hid (kindI D = true) := by show _ = _; rw [hkr.out, decide_eq_true h0, decide_eq_true hl]; rfl
        go_enter Tryz.func167, Tryz.ntmps167
        go_wp2
        go_ret
        exact ⟨ret_bool hf.out.symm, (Below.refl _ w).alloc (Nat.le_refl _) _⟩
      · have hf : Hid (kindI D = false) := by show _ = _; rw [hkr.out, decide_eq_false hl]; simp
        go_enter Tryz.func167, Tryz.ntmps167
        go_wp2
        go_ret
        exact ⟨ret_bool hf.out.symm, (Below.refl _ w).alloc (Nat.le_refl _) _⟩
    · have h0' := nat0_false h0
      have hf : Hid (kindI D = false) := by show _ = _; rw [hkr.out, decide_eq_false h0]; simp
      go_enter Tryz.func167, Tryz.ntmps167
      go_wp2
      go_ret
      exact ⟨ret_bool hf.out.symm, (Below.refl _ w).alloc (Nat.le_refl _) _⟩
  · have hk1 : (D.kind == 1) = false := by simp [hk]
    have hk2' : (D.kind == 2) = false := by simp [hk2]
    have hkr : Hid (kindI D = false) := by show _ = _; unfold kindI; simp [hk, hk2]
    clear hk hk2
    go_enter Tryz.func167, Tryz.ntmps167
    go_wp2
    go_ret
    exact ⟨ret_bool hkr.out.symm, (Below.refl _ w).alloc (Nat.le_refl _) _⟩
set_option maxHeartbeats 4000000 in
theorem inoOkI (D : InoD) (a1 a2 a3 : Option Addr) (c1 c2 c3 : Nat) (w : World) (hm : InoSmall D) (hr : InoRd w D a1 a2 a3) :
    Calls Tryz.prog 115 #[inoV D a1 c1 a2 c2 a3 c3] w fun e w' => e = .returned (.bool (inoOk D)) ∧ Below w.heap.size w w' := by
  obtain ⟨s1, s2, s3, s4, s5⟩ := hm
  have B0 : Below w.heap.size w (w.alloc (.cells (inoC D a1 c1 a2 c2 a3 c3) 68)) := (Below.refl _ w).alloc (Nat.le_refl _) _
  have z0 := Box.new w 68 D a1 a2 a3 c1 c2 c3
  unfold inoC at B0 z0
  have hp : Hid _ := inoOk_parts D
  rw [show inoV D a1 c1 a2 c2 a3 c3 = .agg #[.int .i64 D.ino, .int .i64 D.kind, .int .i64 D.links, .slice a1 D.data.length c1, .slice a2 D.ents.length c2, .slice a3 D.attrs.length c3] from rfl]
  rcases (show D.ino < 1 ∨ (1 ≤ D.ino ∧ 1000 < D.ino) ∨ (1 ≤ D.ino ∧ D.ino ≤ 1000) by omega) with h | ⟨h, h'⟩ | ⟨h, h'⟩
  · have hh : ¬ 1 ≤ D.ino := by omega
    have hf : Hid (inoOk D = false) := by show _ = _; rw [hp.out, decide_eq_false hh]; rfl
    go_enter Tryz.func115, Tryz.ntmps115
    go_wp2
    go_ret
    exact ⟨ret_bool hf.out.symm, B0⟩
  · have hh : ¬ D.ino ≤ 1000 := by omega
    have hf : Hid (inoOk D = false) := by show _ = _; rw [hp.out, decide_eq_true h, decide_eq_false hh]; rfl
    go_enter Tryz.func115, Tryz.ntmps115
    go_wp2
    go_ret
    exact ⟨ret_bool hf.out.symm, B0⟩
  · have hf : Hid (inoOk D = (linkR D && kindI D && entsOk D.ents && attsOk D.attrs)) := by show _ = _; rw [hp.out, decide_eq_true h, decide_eq_true h']; rfl
    go_enter Tryz.func115, Tryz.ntmps115
    go_wp2_with fail
    obtain ⟨W0, hW0⟩ : ∃ W, w.alloc (.cells #[.int .i64 D.ino, .int .i64 D.kind, .int .i64 D.links, .slice a1 D.data.length c1, .slice a2 D.ents.length c2, .slice a3 D.attrs.length c3] 68) = W := ⟨_, rfl⟩
    rw [hW0] at B0 z0 ⊢
    clear hW0
    refine (linksOk_any D a1 a2 a3 c1 c2 c3 W0).mono ?_
    rintro e w1 ⟨rfl, b1⟩
    have B1 := B0.trans (b1.mono B0.size)
    have z1 := z0.keep b1
    obtain ⟨q0, q1, q2, q3, q4, q5⟩ := z1.six
    cases hl : linkR D with
    | false =>
      go_wp2
      go_ret
      exact ⟨ret_bool (by rw [hf.out, hl]; rfl), B1⟩
    | true =>
    go_wp2_with fail
    refine (kindOk_any D a1 a2 a3 c1 c2 c3 w1 s1 s2).mono ?_
    rintro e w2 ⟨rfl, b2⟩
    have B2 := B1.trans (b2.mono B1.size)
    have z2 := z1.keep b2
    clear q0 q1 q2 q3 q4 q5
    obtain ⟨q0, q1, q2, q3, q4, q5⟩ := z2.six
    cases hk : kindI D with
    | false =>
      go_wp2
      go_ret
      exact ⟨ret_bool (by rw [hf.out, hl, hk]; rfl), B2⟩
    | true =>
    go_wp2_with fail
    refine (implE_any a2 _ c2 D.ents w2 rfl s2 s4 (hr.ents.keep B2)).mono ?_
    rintro e w3 ⟨rfl, b3⟩
    have B3 := B2.trans (b3.mono B2.size)
    have z3 := z2.keep b3
    clear q0 q1 q2 q3 q4 q5
    obtain ⟨q0, q1, q2, q3, q4, q5⟩ := z3.six
    cases he : entsOk D.ents with
    | false =>
      go_wp2
      go_ret
      exact ⟨ret_bool (by rw [hf.out, hl, hk, he]; rfl), B3⟩
    | true =>
    go_wp2_with fail
    refine (implA_any a3 _ c3 D.attrs w3 rfl s3 s5 (hr.attrs.keep B3)).mono ?_
    rintro e w4 ⟨rfl, b4⟩
    have B4 := B3.trans (b4.mono B3.size)
    go_wp2
    go_ret
    exact ⟨ret_bool (by rw [hf.out, hl, hk, he]; rfl), B4⟩
end

section
open Go.RowKit Go.Maps
/-- An inode that may stand in a table. -/
def goodR (nx : Int) (r : InoR) : Bool := inoOk r.D && decide (r.D.ino < nx)
/-- What the program's TabOk answers. -/
def tabI (nx : Int) (rs : List InoR) : Bool :=
  decide (rs.length ≤ 30) && (decide (2 ≤ nx) && (decide (nx ≤ 1000) && (rs.all (goodR nx) && ((match firstAt (inos rs) 1 with | none => false | some p => decide ((rs.getD p inoZ).D.kind = 2)) && ascN (inos rs)))))
theorem firstAt_lt {rs : List InoR} {x : Int} {p : Nat} (h : firstAt (inos rs) x = some p) : p < rs.length := by
  unfold firstAt at h
  have := (List.findIdx?_eq_some_iff_getElem.1 h).1
  rw [inos_length] at this
  exact this
set_option maxRecDepth 100000 in
set_option maxHeartbeats 4000000 in
theorem tabOkI (a : Option Addr) (n cap : Nat) (nx : Int) (rs : List InoR) (w : World) (hn : rs.length = n) (hs : n ≤ 4000000) (hwf : ∀ r ∈ rs, (Lit.int .i64 r.D.ino).wf = true) (hsm : ∀ r ∈ rs, InoSmall r.D) (hr : RdI w a rs) :
    Calls Tryz.prog 81 #[.agg #[.slice a n cap, .int .i64 nx]] w fun e w' => e = .returned (.bool (tabI nx rs)) ∧ Below w.heap.size w w' := by
  have B0 : Below w.heap.size w (w.alloc (.cells #[.slice a n cap, .int .i64 nx] 47)) := (Below.refl _ w).alloc (Nat.le_refl _) _
  have hR : tabI nx rs = (decide (n ≤ 30) && (decide (2 ≤ nx) && (decide (nx ≤ 1000) && (rs.all (goodR nx) && ((match firstAt (inos rs) 1 with | none => false | some p => decide ((rs.getD p inoZ).D.kind = 2)) && ascN (inos rs)))))) := by unfold tabI; rw [hn]
  generalize tabI nx rs = R at hR ⊢
  have HB : Hid _ := B0
  by_cases h1 : n ≤ 30
  · by_cases h2 : 2 ≤ nx
    · by_cases h3 : nx ≤ 1000
      · rw [decide_eq_true h1, decide_eq_true h2, decide_eq_true h3, Bool.true_and, Bool.true_and, Bool.true_and] at hR
        have g1 : ¬ (30 : Int) < (n : Int) := by omega
        have g2 : ¬ nx < 2 := by omega
        have g3 : ¬ (1000 : Int) < nx := by omega
        have z0 := Blk.new w 47 #[.slice a n cap, .int .i64 nx]
        have hr0 := hr.keep B0
        have HR0 : Hid _ := hr0
        have cB := fun (W : World) (hW : Below (w.alloc (.cells #[.slice a n cap, .int .i64 nx] 47)).heap.size (w.alloc (.cells #[.slice a n cap, .int .i64 nx] 47)) W) => byNumber_any a n cap nx rs W hn hs hwf (RdI.keep hr0 hW)
        have cA := fun (W : World) (hW : Below (w.alloc (.cells #[.slice a n cap, .int .i64 nx] 47)).heap.size (w.alloc (.cells #[.slice a n cap, .int .i64 nx] 47)) W) => ascT_any a n cap rs W hn hs (RdI.keep hr0 hW)
        have hcell := fun (W : World) (hW : Below (w.alloc (.cells #[.slice a n cap, .int .i64 nx] 47)).heap.size (w.alloc (.cells #[.slice a n cap, .int .i64 nx] 47)) W) => RdI.keep hr0 hW
        have CB : Hid _ := cB
        have CA : Hid _ := cA
        have HCL : Hid _ := hcell
        have HS : Hid _ := hsm
        have hn' : Hid (rs.length = n) := hn
        have HR : Hid _ := hR
        clear hr hr0 cB cA hcell hsm hwf hn hR
        go_enter Tryz.func81, Tryz.ntmps81
        go_wp2
        obtain ⟨W0, hW0⟩ : ∃ W, w.alloc (.cells #[.slice a n cap, .int .i64 nx] 47) = W := ⟨_, rfl⟩
        rw [hW0] at B0 z0 CB CA HCL HR0 ⊢
        clear HB hW0
        have hws := B0.size
        go_loopw [24] (fun i wr => ∃ k : Nat, k ≤ n ∧ i = .int .i64 k ∧ Hid (∀ r ∈ rs.take k, goodR nx r = true) ∧ Below W0.heap.size W0 wr) (fun i _ => n - (intOf i).toNat)
        case atStart => exact ⟨0, Nat.zero_le _, rfl, fun r hr => by simp at hr, Below.refl _ _⟩
        case round =>
          obtain ⟨k, hk, rfl, hall, hB⟩ := hrel
          have hbz := hB.size
          by_cases hkn : k < n
          · have hki : (k : Int) < (n : Int) := by omega
            obtain ⟨r, hrk⟩ : ∃ r, rs[k]? = some r := ⟨_, List.getElem?_eq_getElem (by rw [hn'.out]; exact hkn)⟩
            obtain ⟨b, off, rfl, hlt, hc⟩ := (HCL.out wr hB).lt (by intro h; have := hn'.out; rw [h] at this; simp at this; omega)
            obtain ⟨x6, xr⟩ := hc k r hrk
            obtain ⟨x0, x1, x2, x3, x4, x5⟩ := x6
            have hmem := List.mem_of_getElem? hrk
            have hsr := HS.out r hmem
            have hbA : Below wr.heap.size wr (wr.alloc (.cells #[.int .i64 r.D.ino, .int .i64 r.D.kind, .int .i64 r.D.links, .slice r.a1 r.D.data.length r.c1, .slice r.a2 r.D.ents.length r.c2, .slice r.a3 r.D.attrs.length r.c3] 68)) := (Below.refl _ wr).alloc (Nat.le_refl _) _
            have hcI := inoOkI r.D r.a1 r.a2 r.a3 r.c1 r.c2 r.c3 (wr.alloc (.cells #[.int .i64 r.D.ino, .int .i64 r.D.kind, .int .i64 r.D.links, .slice r.a1 r.D.data.length r.c1, .slice r.a2 r.D.ents.length r.c2, .slice r.a3 r.D.attrs.length r.c3] 68)) hsr (InoR.rd.keep xr hbA)
            have bx := Blk.new wr 68 #[.int .i64 r.D.ino, .int .i64 r.D.kind, .int .i64 r.D.links, .slice r.a1 r.D.data.length r.c1, .slice r.a2 r.D.ents.length r.c2, .slice r.a3 r.D.attrs.length r.c3]
            have zk := (z0.keep hB).keep hbA
            have hnext : Hid (goodR nx r = true → ∀ q ∈ rs.take (k + 1), goodR nx q = true) := by
              intro h q hq
              rw [List.take_add_one, hrk] at hq
              simp only [Option.toList_some, List.mem_append, List.mem_singleton] at hq
              rcases hq with hq | rfl
              · exact hall.out q hq
              · exact h
            have hbad : Hid (goodR nx r = false → false = R) := by
              intro h
              rw [HR.out, show rs.all (goodR nx) = false from List.all_eq_false.2 ⟨r, hmem, by rw [h]; simp⟩]
              simp
            have hgr : goodR nx r = (inoOk r.D && decide (r.D.ino < nx)) := rfl
            unfold inoV at hcI
            generalize goodR nx r = gd at hgr hnext hbad
            generalize inoOk r.D = ok at hcI hgr
            generalize r.D.ino = i1 at x0 hbA hcI bx zk hgr
            generalize r.D.kind = i2 at x1 hbA hcI bx zk
            generalize r.D.links = i3 at x2 hbA hcI bx zk
            generalize r.D.data.length = n1 at x3 hbA hcI bx zk
            generalize r.D.ents.length = n2 at x4 hbA hcI bx zk
            generalize r.D.attrs.length = n3 at x5 hbA hcI bx zk
            have HG : Hid _ := hgr
            have HBK : Hid _ := And.intro bx (And.intro zk hbA)
            clear hc hrk hmem hsr xr hgr hall bx zk hbA
            cases ok with
            | false =>
              go_wp2_with fail
              (with_reducible refine hcI.mono ?_)
              rintro e w1 ⟨rfl, b1⟩
              have B1 := hB.trans ((HBK.out.2.2.trans (b1.mono HBK.out.2.2.size)).mono hbz)
              clear x0 x1 x2 x3 x4 x5 hcI
              go_wp2
              go_ret
              exact ⟨ret_bool (hbad.out (by rw [HG.out]; rfl)), B0.trans (B1.mono hws)⟩
            | true =>
              go_wp2_with fail
              (with_reducible refine hcI.mono ?_)
              rintro e w1 ⟨rfl, b1⟩
              have B1 := hB.trans ((HBK.out.2.2.trans (b1.mono HBK.out.2.2.size)).mono hbz)
              have d0 := (HBK.out.1.keep b1).cell 0
              have d1 := (HBK.out.2.1.keep b1).cell 1
              simp at d0 d1
              clear x0 x1 x2 x3 x4 x5 hcI b1
              by_cases hle : i1 < nx
              · have hle2 : ¬ nx ≤ i1 := by omega
                have hnx : Hid _ := hnext.out (by rw [HG.out, decide_eq_true hle]; rfl)
                go_wp2
                go_roundw
                case rel => exact ⟨k + 1, by omega, by go_num, hnx, B1⟩
                case measure => simp [intOf]; omega
              · have hle2 : nx ≤ i1 := by omega
                go_wp2
                go_ret
                exact ⟨ret_bool (hbad.out (by rw [HG.out, decide_eq_false (show ¬ i1 < nx by omega)]; rfl)), B0.trans (B1.mono hws)⟩
          · have hki : ¬ (k : Int) < (n : Int) := by omega
            have hallT : rs.all (goodR nx) = true := by
              have := hall.out
              rw [List.take_of_length_le (by rw [hn'.out]; omega)] at this
              exact List.all_eq_true.2 this
            have HR2 : Hid (R = ((match firstAt (inos rs) 1 with | none => false | some p => decide ((rs.getD p inoZ).D.kind = 2)) && ascN (inos rs))) := by show _ = _; rw [HR.out, hallT, Bool.true_and]
            obtain ⟨t0, t1⟩ : wr.cell? ⟨w.heap.size, 0, none⟩ = some (.slice a n cap) ∧ wr.cell? ⟨w.heap.size, 1, none⟩ = some (.int .i64 nx) := ⟨(z0.keep hB).cell 0, (z0.keep hB).cell 1⟩
            have hcB := CB.out wr hB
            clear hall hallT HR
            go_wp2_with fail
            (with_reducible refine hcB.mono ?_)
            rintro e w1 ⟨cnt, D, rfl, hcnt, hM, hown, b1⟩
            have B1 := hB.trans (b1.mono hbz)
            have hM1 := hM.2 1
            have HM : Hid _ := hM1
            have hkey : keyOf Tryz.prog 3 (.int .i64 1) = some (.int .i64 1) := keyOf_int_mk Tryz.underlying3 (by decide)
            have u0 := (z0.keep B1).cell 0
            simp at u0
            have hcA := CA.out w1 B1
            clear hM hM1 t0 t1 hcB b1
            cases hfa : firstAt (inos rs) 1 with
            | none =>
              have hhas : Maps.has D (.int .i64 1) = false := by rw [HM.out.1, hfa]; rfl
              have hRf : Hid (false = R) := by show _ = _; rw [HR2.out, hfa]; rfl
              go_wp2_with (first
                | (at_lookup; refine wpList_lookup_own_ok_int _ rfl _ _ 157 rfl 3 3 .i64 Tryz.keyInt Tryz.underlying157 Tryz.underlying3 (Tryz.zeroInt _) (wr.heap.size + 1) cnt D rfl hown _ _ rfl hkey ?_; intro c hat hwc; rw [hhas])
                | go_in)
              go_ret
              exact ⟨ret_bool hRf.out, B0.trans (B1.mono hws)⟩
            | some p =>
              have hhas : Maps.has D (.int .i64 1) = true := by rw [HM.out.1, hfa]; rfl
              have hp := firstAt_lt hfa
              rw [hn'.out] at hp
              have hpi : (p : Int) < (n : Int) := by omega
              have hat0 := HM.out.2 p hfa
              obtain ⟨r, hrp⟩ : ∃ r, rs[p]? = some r := ⟨_, List.getElem?_eq_getElem (by rw [hn'.out]; exact hp)⟩
              obtain ⟨b, off, rfl, hlt, hc⟩ := (HCL.out w1 B1).lt (by intro h; have := hn'.out; rw [h] at this; simp at this; omega)
              have x1 := (hc p r hrp).1.c1
              have hRk : Hid (R = (decide (r.D.kind = 2) && ascN (inos rs))) := by show _ = _; rw [HR2.out, hfa]; simp [List.getD_eq_getElem?_getD, hrp]
              generalize r.D.kind = kd at x1 hRk
              generalize ascN (inos rs) = asc at hcA hRk
              clear hc hrp
              have hpp : (0 : Int) ≤ (p : Int) := by omega
              by_cases hkd : kd = 2
              · have hkb : (kd == 2) = true := by simp [hkd]
                have hRa : Hid (asc = R) := by show _ = _; rw [hRk.out, decide_eq_true hkd, Bool.true_and]
                subst hkd
                go_wp2_with (first
                  | (at_lookup; refine wpList_lookup_own_ok_int _ rfl _ _ 157 rfl 3 3 .i64 Tryz.keyInt Tryz.underlying157 Tryz.underlying3 (Tryz.zeroInt _) (wr.heap.size + 1) cnt D rfl hown _ _ rfl hkey ?_; intro c hat hwc; rw [hhas]; rw [hat0] at hat; simp at hat; subst hat)
                  | fail)
                (with_reducible refine hcA.mono ?_)
                rintro e w2 ⟨rfl, b2⟩
                go_wp2
                go_ret
                exact ⟨ret_bool hRa.out, B0.trans ((B1.trans (b2.mono B1.size)).mono hws)⟩
              · have hkb : (kd == 2) = false := by simp [hkd]
                have hRf : Hid (false = R) := by show _ = _; rw [hRk.out, decide_eq_false hkd, Bool.false_and]
                go_wp2_with (first
                  | (at_lookup; refine wpList_lookup_own_ok_int _ rfl _ _ 157 rfl 3 3 .i64 Tryz.keyInt Tryz.underlying157 Tryz.underlying3 (Tryz.zeroInt _) (wr.heap.size + 1) cnt D rfl hown _ _ rfl hkey ?_; intro c hat hwc; rw [hhas]; rw [hat0] at hat; simp at hat; subst hat)
                  | go_in)
                go_ret
                exact ⟨ret_bool hRf.out, B0.trans (B1.mono hws)⟩
      · rw [decide_eq_true h1, decide_eq_true h2, decide_eq_false h3, Bool.true_and, Bool.true_and, Bool.false_and] at hR
        have g1 : ¬ (30 : Int) < (n : Int) := by omega
        have g2 : ¬ nx < 2 := by omega
        have g3 : (1000 : Int) < nx := by omega
        have HR : Hid _ := hR
        clear hR hr hsm hwf
        go_enter Tryz.func81, Tryz.ntmps81
        go_wp2
        go_ret
        exact ⟨ret_bool HR.out.symm, HB.out⟩
    · rw [decide_eq_true h1, decide_eq_false h2, Bool.true_and, Bool.false_and] at hR
      have g1 : ¬ (30 : Int) < (n : Int) := by omega
      have g2 : nx < 2 := by omega
      have HR : Hid _ := hR
      clear hR hr hsm hwf
      go_enter Tryz.func81, Tryz.ntmps81
      go_wp2
      go_ret
      exact ⟨ret_bool HR.out.symm, HB.out⟩
  · rw [decide_eq_false h1, Bool.false_and] at hR
    have g1 : (30 : Int) < (n : Int) := by omega
    have HR : Hid _ := hR
    clear hR hr hsm hwf
    go_enter Tryz.func81, Tryz.ntmps81
    go_wp2
    go_ret
    exact ⟨ret_bool HR.out.symm, HB.out⟩
end
end Go.Proofs.YtbjfihabkpianaaGreatDoor
