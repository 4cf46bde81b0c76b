/-
  Joined: EntsOk, AttsOk, InoOk.
-/
import Derived.Test.YtnadeelnjhollaaGreatSzInoV
import Derived.Test.YtnadeelnjhollaaGreatSixV
namespace Go.Proofs.YtnadeelnjhollaaGreat
section
open Go.RowKit
def entD : ByteArray × Int := (⟨#[]⟩, 0)
/-- The i-th entry is right beside the one ahead of it. -/
def entAt (es : List (ByteArray × Int)) (i : Nat) : Bool :=
  nameOk (es.getD i entD).1.data.toList && (decide (2 ≤ (es.getD i entD).2) && decide ((es.getD i entD).2 ≤ 1000)) && (decide (i = 0) || Op.bytesLess (es.getD (i - 1) entD).1.toList (es.getD i entD).1.toList)
def entsOk (es : List (ByteArray × Int)) : Bool := (List.range es.length).all (entAt es) && decide (es.length ≤ 10)
theorem all_range_false {p : Nat → Bool} {n k : Nat} (hk : k < n) (h : p k = false) : (List.range n).all p = false := by
  rw [List.all_eq_false]; exact ⟨k, List.mem_range.2 hk, by simp [h]⟩
theorem all_range_true {p : Nat → Bool} {n : Nat} (h : ∀ k, k < n → p k = true) : (List.range n).all p = true := by
  rw [List.all_eq_true]; exact fun k hk => h k (List.mem_range.1 hk)
set_option maxHeartbeats 2000000 in
theorem l3Ents_any (a : Option Addr) (n cap : Nat) (es : List (ByteArray × Int)) (w : World) (hn : es.length = n) (hs : n ≤ 1048576) (hsz : ∀ q ∈ es, q.1.size ≤ 1048576) (hr : RdP w a (eP es)) :
    Calls Tryz.prog 110 #[.slice a n cap] w fun e w' => e = .returned (.bool (entsOk es)) ∧ ∃ d, w' = w.drewN d := by
  have hlast : entsOk es = ((List.range n).all (entAt es) && decide (n ≤ 10)) := by unfold entsOk; rw [hn]
  by_cases h0 : n = 0
  · subst h0
    obtain rfl : es = [] := List.length_eq_zero_iff.1 hn
    go_enter Tryz.func110, Tryz.ntmps110
    go_wp2
    refine wp_loop_rounds 1 ?_; rw [rounds_succ]
    go_wp2
    go_ret
    exact ⟨rfl, 0, rfl⟩
  · have hne : eP es ≠ [] := by intro h; have := congrArg List.length h; rw [eP_length, hn] at this; simp at this; omega
    obtain ⟨b, off, rfl, hlt, hc⟩ := hr.lt hne
    have HC : Hid _ := hc
    have hn' : Hid (es.length = n) := hn
    have HL : Hid _ := hlast
    clear hr hne hc hn hlast
    go_enter Tryz.func110, Tryz.ntmps110
    go_wp2
    go_loopw [3] (fun i wr => ∃ k d : Nat, k ≤ n ∧ i = .int .i64 k ∧ wr = w.drewN d ∧ Hid (∀ j, j < k → entAt es j = true)) (fun i _ => n - (intOf i).toNat)
    case atStart => exact ⟨0, 0, Nat.zero_le _, rfl, rfl, fun j hj => by omega⟩
    case round =>
      obtain ⟨k, d, hk, rfl, hwr0, hall⟩ := hrel
      have hwr : Hid (wr = w.drewN d) := hwr0
      have hcells : ∀ p, wr.cell? p = w.cell? p := fun p => by rw [hwr0]; rfl
      clear hwr0
      by_cases hkn : k < n
      · have hkl : k < es.length := by rw [hn'.out]; exact hkn
        have hki : (k : Int) < (n : Int) := by omega
        have hx := HC.out k (by rw [eP_length]; exact hkl)
        rw [eP_at es k hkl] at hx
        have hzs := hsz es[k] (List.getElem_mem hkl)
        have hat : entAt es k = (nameOk es[k].1.data.toList && (decide (2 ≤ es[k].2) && decide (es[k].2 ≤ 1000)) && (decide (k = 0) || Op.bytesLess (es.getD (k - 1) entD).1.toList es[k].1.toList)) := by
          unfold entAt
          have e : es.getD k entD = es[k] := by simp [hkl]
          rw [e]
        have hno : entAt es k = false → entsOk es = false := fun h => by rw [HL.out, all_range_false hkn h]; rfl
        have hyes : entAt es k = true → ∀ j, j < k + 1 → entAt es j = true := by
          intro h j hj
          rcases (show j < k ∨ j = k by omega) with hj | rfl
          · exact hall.out j hj
          · exact h
        obtain ⟨z, hz⟩ : ∃ z, es[k].1 = z := ⟨_, rfl⟩
        obtain ⟨u, hu⟩ : ∃ u, es[k].2 = u := ⟨_, rfl⟩
        rw [hz, hu] at hx hat
        rw [hz] at hzs
        obtain ⟨x1, x2⟩ := hx
        dsimp only at x1 x2
        rw [← hcells] at x1 x2
        have HCE : Hid _ := hcells
        clear hcells
        have HNO : Hid _ := hno
        have HYES : Hid _ := hyes
        have HAT : Hid _ := hat
        clear hno hyes hat hall hz hu
        cases hnm : nameOk z.data.toList with
        | false =>
          have hN : ∀ W : World, Calls Tryz.prog 137 #[.string z] W fun e w' => e = .returned (.bool false) ∧ w' = W := fun W => by rw [← hnm]; exact nameS z W (by omega)
          have hfin : Hid (entsOk es = false) := HNO.out (by rw [HAT.out, hnm]; rfl)
          clear HNO HYES HAT
          go_wp2
          go_quiet ((go_at_call 137; refine Calls.quiet_of_same (hN _)))
          go_wp2
          go_ret
          exact ⟨ret_bool hfin.out.symm, d + nq, by rw [hwr.out, World.drewN_drewN]⟩
        | true =>
          have hN : ∀ W : World, Calls Tryz.prog 137 #[.string z] W fun e w' => e = .returned (.bool true) ∧ w' = W := fun W => by rw [← hnm]; exact nameS z W (by omega)
          cases hin : (decide (2 ≤ u) && decide (u ≤ 1000)) with
          | false =>
            have hL : ∀ W : World, Calls Tryz.prog 68 #[.int .i64 u, .int .i64 2, .int .i64 1000] W fun e w' => e = .returned (.bool false) ∧ w' = W := fun W => by rw [← hin]; exact l1In_any u 2 1000 W
            have hfin : Hid (entsOk es = false) := HNO.out (by rw [HAT.out, hnm, hin]; rfl)
            clear HNO HYES HAT hin
            go_wp2
            go_quiet ((first | (go_at_call 137; refine Calls.quiet_of_same (hN _)) | (go_at_call 68; refine Calls.quiet_of_same (hL _))))
            go_wp2
            go_ret
            exact ⟨ret_bool hfin.out.symm, d + nq, by rw [hwr.out, World.drewN_drewN]⟩
          | true =>
            have hL : ∀ W : World, Calls Tryz.prog 68 #[.int .i64 u, .int .i64 2, .int .i64 1000] W fun e w' => e = .returned (.bool true) ∧ w' = W := fun W => by rw [← hin]; exact l1In_any u 2 1000 W
            by_cases hk0 : k = 0
            · have hk0' : ¬ (0 : Int) < (k : Int) := by omega
              have hnx : Hid _ := HYES.out (by rw [HAT.out, hnm, hin, decide_eq_true hk0]; rfl)
              clear HNO HYES HAT hin
              subst hk0
              simp only [Nat.zero_mul, Nat.add_zero] at x1 x2
              go_wp2
              go_quiet ((first | (go_at_call 137; refine Calls.quiet_of_same (hN _)) | (go_at_call 68; refine Calls.quiet_of_same (hL _))))
              go_wp2
              go_roundw
              case rel => exact ⟨0 + 1, d + nq, by omega, by go_num, by rw [hwr.out, World.drewN_drewN], hnx⟩
              case measure => simp [intOf]; omega
            · obtain ⟨m, hm⟩ : ∃ m, k = m + 1 := ⟨k - 1, by omega⟩
              subst hm
              have hml : m < es.length := by omega
              have hp := (HC.out m (by rw [eP_length]; exact hml)).1
              rw [eP_at es m hml, ← HCE.out] at hp
              dsimp only at hp
              have hgm : (es.getD (m + 1 - 1) entD).1 = es[m].1 := by simp [hml]
              have hat := HAT.out
              rw [hgm] at hat
              obtain ⟨y, hy⟩ : ∃ y, es[m].1 = y := ⟨_, rfl⟩
              rw [hy] at hp hat
              have hm1 : (m : Int) < (n : Int) := by omega
              have hm0 : (0 : Int) ≤ (m : Int) := by omega
              cases hlt2 : Op.bytesLess y.toList z.toList with
              | false =>
                have hfin : Hid (entsOk es = false) := HNO.out (by rw [hat, hnm, hin, hlt2]; simp)
                clear HNO HYES HAT hin hat hgm hy
                go_wp2
                go_quiet ((first | (go_at_call 137; refine Calls.quiet_of_same (hN _)) | (go_at_call 68; refine Calls.quiet_of_same (hL _))))
                go_wp2
                go_ret
                exact ⟨ret_bool hfin.out.symm, d + nq, by rw [hwr.out, World.drewN_drewN]⟩
              | true =>
                have hnx : Hid _ := HYES.out (by rw [hat, hnm, hin, hlt2]; simp)
                clear HNO HYES HAT hin hat hgm hy
                go_wp2
                go_quiet ((first | (go_at_call 137; refine Calls.quiet_of_same (hN _)) | (go_at_call 68; refine Calls.quiet_of_same (hL _))))
                go_wp2
                go_roundw
                case rel => exact ⟨m + 1 + 1, d + nq, by omega, by go_num, by rw [hwr.out, World.drewN_drewN], hnx⟩
                case measure => simp [intOf]; omega
      · have hki : ¬ (k : Int) < (n : Int) := by omega
        obtain rfl : k = n := by omega
        have hfin : Hid (entsOk es = decide (k ≤ 10)) := by show _ = _; rw [HL.out, all_range_true hall.out]; simp
        clear hall hcells
        by_cases h10 : k ≤ 10
        · have h10' : (k : Int) ≤ 10 := by omega
          go_wp2
          go_ret
          exact ⟨ret_bool (by rw [hfin.out, decide_eq_true h10]), d, hwr.out⟩
        · have h10' : ¬ (k : Int) ≤ 10 := by omega
          go_wp2
          go_ret
          exact ⟨ret_bool (by rw [hfin.out, decide_eq_false h10]), d, hwr.out⟩
end

section
open Go.RowKit
def attD : ByteArray × ByteArray := (⟨#[]⟩, ⟨#[]⟩)
/-- The i-th entry is right beside the one ahead of it. -/
def attAt (es : List (ByteArray × ByteArray)) (i : Nat) : Bool :=
  nameOk (es.getD i attD).1.data.toList && decide ((es.getD i attD).2.size ≤ 16) && (decide (i = 0) || Op.bytesLess (es.getD (i - 1) attD).1.toList (es.getD i attD).1.toList)
def attsOk (es : List (ByteArray × ByteArray)) : Bool := (List.range es.length).all (attAt es) && decide (es.length ≤ 4)
set_option maxHeartbeats 4000000 in
theorem l3Attrs_any (a : Option Addr) (n cap : Nat) (es : List (ByteArray × ByteArray)) (w : World) (hn : es.length = n) (hs : n ≤ 1048576) (hsz : ∀ q ∈ es, q.1.size ≤ 1048576 ∧ q.2.size ≤ 1048576) (hr : RdP w a (aP es)) :
    Calls Tryz.prog 111 #[.slice a n cap] w fun e w' => e = .returned (.bool (attsOk es)) ∧ ∃ d, w' = w.drewN d := by
  have hlast : attsOk es = ((List.range n).all (attAt es) && decide (n ≤ 4)) := by unfold attsOk; rw [hn]
  by_cases h0 : n = 0
  · subst h0
    obtain rfl : es = [] := List.length_eq_zero_iff.1 hn
    go_enter Tryz.func111, Tryz.ntmps111
    go_wp2
    refine wp_loop_rounds 1 ?_; rw [rounds_succ]
    go_wp2
    go_ret
    exact ⟨rfl, 0, rfl⟩
  · have hne : aP es ≠ [] := by intro h; have := congrArg List.length h; rw [aP_length, hn] at this; simp at this; omega
    obtain ⟨b, off, rfl, hlt, hc⟩ := hr.lt hne
    have HC : Hid _ := hc
    have hn' : Hid (es.length = n) := hn
    have HL : Hid _ := hlast
    clear hr hne hc hn hlast
    go_enter Tryz.func111, Tryz.ntmps111
    go_wp2
    go_loopw [3] (fun i wr => ∃ k d : Nat, k ≤ n ∧ i = .int .i64 k ∧ wr = w.drewN d ∧ Hid (∀ j, j < k → attAt es j = true)) (fun i _ => n - (intOf i).toNat)
    case atStart => exact ⟨0, 0, Nat.zero_le _, rfl, rfl, fun j hj => by omega⟩
    case round =>
      obtain ⟨k, d, hk, rfl, hwr0, hall⟩ := hrel
      have hwr : Hid (wr = w.drewN d) := hwr0
      have hcells : ∀ p, wr.cell? p = w.cell? p := fun p => by rw [hwr0]; rfl
      clear hwr0
      by_cases hkn : k < n
      · have hkl : k < es.length := by rw [hn'.out]; exact hkn
        have hki : (k : Int) < (n : Int) := by omega
        have hx := HC.out k (by rw [aP_length]; exact hkl)
        rw [aP_at es k hkl] at hx
        obtain ⟨hzs, hus⟩ := hsz es[k] (List.getElem_mem hkl)
        have hat : attAt es k = (nameOk es[k].1.data.toList && decide (es[k].2.size ≤ 16) && (decide (k = 0) || Op.bytesLess (es.getD (k - 1) attD).1.toList es[k].1.toList)) := by
          unfold attAt
          have e : es.getD k attD = es[k] := by simp [hkl]
          rw [e]
        have hno : attAt es k = false → attsOk es = false := fun h => by rw [HL.out, all_range_false hkn h]; rfl
        have hyes : attAt es k = true → ∀ j, j < k + 1 → attAt es j = true := by
          intro h j hj
          rcases (show j < k ∨ j = k by omega) with hj | rfl
          · exact hall.out j hj
          · exact h
        obtain ⟨z, hz⟩ : ∃ z, es[k].1 = z := ⟨_, rfl⟩
        obtain ⟨u, hu⟩ : ∃ u, es[k].2 = u := ⟨_, rfl⟩
        rw [hz, hu] at hx hat
        rw [hz] at hzs
        rw [hu] at hus
        obtain ⟨x1, x2⟩ := hx
        dsimp only at x1 x2
        rw [← hcells] at x1 x2
        have HCE : Hid _ := hcells
        clear hcells
        have HNO : Hid _ := hno
        have HYES : Hid _ := hyes
        have HAT : Hid _ := hat
        clear hno hyes hat hall hz hu
        cases hnm : nameOk z.data.toList with
        | false =>
          have hN : ∀ W : World, Calls Tryz.prog 137 #[.string z] W fun e w' => e = .returned (.bool false) ∧ w' = W := fun W => by rw [← hnm]; exact nameS z W (by omega)
          have hfin : Hid (attsOk es = false) := HNO.out (by rw [HAT.out, hnm]; rfl)
          clear HNO HYES HAT
          go_wp2
          go_quiet ((go_at_call 137; refine Calls.quiet_of_same (hN _)))
          go_wp2
          go_ret
          exact ⟨ret_bool hfin.out.symm, d + nq, by rw [hwr.out, World.drewN_drewN]⟩
        | true =>
          have hN : ∀ W : World, Calls Tryz.prog 137 #[.string z] W fun e w' => e = .returned (.bool true) ∧ w' = W := fun W => by rw [← hnm]; exact nameS z W (by omega)
          cases hin : decide (u.size ≤ 16) with
          | false =>
            have hu1 : 16 < u.size := by have := of_decide_eq_false hin; omega
            have hL : decide ((16 : Int) < (u.size : Int)) = true := decide_eq_true (by omega)
            have hfin : Hid (attsOk es = false) := HNO.out (by rw [HAT.out, hnm, hin]; rfl)
            clear HNO HYES HAT hin
            go_wp2
            go_quiet ((go_at_call 137; refine Calls.quiet_of_same (hN _)))
            go_wp2
            go_ret
            exact ⟨ret_bool hfin.out.symm, d + nq, by rw [hwr.out, World.drewN_drewN]⟩
          | true =>
            have hu1 : u.size ≤ 16 := of_decide_eq_true hin
            have hL : decide ((16 : Int) < (u.size : Int)) = false := decide_eq_false (by omega)
            by_cases hk0 : k = 0
            · have hk0' : ¬ (0 : Int) < (k : Int) := by omega
              have hnx : Hid _ := HYES.out (by rw [HAT.out, hnm, hin, decide_eq_true hk0]; rfl)
              clear HNO HYES HAT hin
              subst hk0
              simp only [Nat.zero_mul, Nat.add_zero] at x1 x2
              go_wp2
              go_quiet ((go_at_call 137; refine Calls.quiet_of_same (hN _)))
              go_wp2
              go_roundw
              case rel => exact ⟨0 + 1, d + nq, by omega, by go_num, by rw [hwr.out, World.drewN_drewN], hnx⟩
              case measure => simp [intOf]; omega
            · obtain ⟨m, hm⟩ : ∃ m, k = m + 1 := ⟨k - 1, by omega⟩
              subst hm
              have hml : m < es.length := by omega
              have hp := (HC.out m (by rw [aP_length]; exact hml)).1
              rw [aP_at es m hml, ← HCE.out] at hp
              dsimp only at hp
              have hgm : (es.getD (m + 1 - 1) attD).1 = es[m].1 := by simp [hml]
              have hat := HAT.out
              rw [hgm] at hat
              obtain ⟨y, hy⟩ : ∃ y, es[m].1 = y := ⟨_, rfl⟩
              rw [hy] at hp hat
              have hm1 : (m : Int) < (n : Int) := by omega
              have hm0 : (0 : Int) ≤ (m : Int) := by omega
              cases hlt2 : Op.bytesLess y.toList z.toList with
              | false =>
                have hfin : Hid (attsOk es = false) := HNO.out (by rw [hat, hnm, hin, hlt2]; simp)
                clear HNO HYES HAT hin hat hgm hy
                go_wp2
                go_quiet ((go_at_call 137; refine Calls.quiet_of_same (hN _)))
                go_wp2
                go_ret
                exact ⟨ret_bool hfin.out.symm, d + nq, by rw [hwr.out, World.drewN_drewN]⟩
              | true =>
                have hnx : Hid _ := HYES.out (by rw [hat, hnm, hin, hlt2]; simp)
                clear HNO HYES HAT hin hat hgm hy
                go_wp2
                go_quiet ((go_at_call 137; refine Calls.quiet_of_same (hN _)))
                go_wp2
                go_roundw
                case rel => exact ⟨m + 1 + 1, d + nq, by omega, by go_num, by rw [hwr.out, World.drewN_drewN], hnx⟩
                case measure => simp [intOf]; omega
      · have hki : ¬ (k : Int) < (n : Int) := by omega
        obtain rfl : k = n := by omega
        have hfin : Hid (attsOk es = decide (k ≤ 4)) := by show _ = _; rw [HL.out, all_range_true hall.out]; simp
        clear hall hcells
        by_cases h10 : k ≤ 4
        · have h10' : (k : Int) ≤ 4 := by omega
          go_wp2
          go_ret
          exact ⟨ret_bool (by rw [hfin.out, decide_eq_true h10]), d, hwr.out⟩
        · have h10' : ¬ (k : Int) ≤ 4 := by omega
          go_wp2
          go_ret
          exact ⟨ret_bool (by rw [hfin.out, decide_eq_false h10]), d, hwr.out⟩
end

section
open Go.RowKit
/-- The kind is right for the rest. -/
def kindR (D : InoD) : Bool := (decide (D.kind = 1) && decide (D.ents.length = 0)) || (decide (D.kind = 2) && (decide (D.data.length = 0) && decide (D.links ≤ 1)))
/-- The inode is right. -/
def inoOk (D : InoD) : Bool :=
  (decide (1 ≤ D.ino) && decide (D.ino ≤ 1000)) && (decide (0 ≤ D.links) && decide (D.links ≤ 1000)) && ((D.links == 0) == (D.ino == 1)) && decide (D.data.length ≤ 100) && entsOk D.ents && attsOk D.attrs && kindR D
theorem drewN_below {w w' : World} {B : Nat} (h : ∃ d, w' = w.drewN d) : Below B w w' := by
  obtain ⟨d, rfl⟩ := h
  exact below_drewN (Below.refl _ _) d
set_option maxHeartbeats 4000000 in
theorem inoOkS (D : InoD) (a1 a2 a3 : Option Addr) (c1 c2 c3 : Nat) (w : World) (hm : InoSmall D) (hr : InoRd w D a1 a2 a3) :
    Calls Tryz.prog 69 #[inoV D a1 c1 a2 c2 a3 c3] w fun e w' => e = .returned (.bool (inoOk D)) ∧ Below w.heap.size w w' := by
  obtain ⟨s1, s2, s3, s4, s5⟩ := hm
  have B0 : Below w.heap.size w (w.alloc (.cells (inoC D a1 c1 a2 c2 a3 c3) 46)) := (Below.refl _ w).alloc (Nat.le_refl _) _
  have z0 := Box.new w 46 D a1 a2 a3 c1 c2 c3
  unfold inoC at B0 z0
  unfold inoV
  cases hA : (decide (1 ≤ D.ino) && decide (D.ino ≤ 1000)) with
  | false =>
    have hfin : Hid (inoOk D = false) := by show _ = _; unfold inoOk; rw [hA]; rfl
    have H1 : ∀ W : World, Calls Tryz.prog 68 #[.int .i64 D.ino, .int .i64 1, .int .i64 1000] W fun e w' => e = .returned (.bool false) ∧ w' = W := fun W => by rw [← hA]; exact l1In_any D.ino 1 1000 W
    go_enter Tryz.func69, Tryz.ntmps69
    go_wp2_with fail
    refine (H1 _).mono ?_
    rintro e w1 ⟨rfl, rfl⟩
    go_wp2
    go_ret
    exact ⟨ret_bool hfin.out.symm, B0⟩
  | true =>
  have H1 : ∀ W : World, Calls Tryz.prog 68 #[.int .i64 D.ino, .int .i64 1, .int .i64 1000] W fun e w' => e = .returned (.bool true) ∧ w' = W := fun W => by rw [← hA]; exact l1In_any D.ino 1 1000 W
  cases hL : (decide (0 ≤ D.links) && decide (D.links ≤ 1000)) with
  | false =>
    have hfin : Hid (inoOk D = false) := by show _ = _; unfold inoOk; rw [hA, hL]; rfl
    have H2 : ∀ W : World, Calls Tryz.prog 68 #[.int .i64 D.links, .int .i64 0, .int .i64 1000] W fun e w' => e = .returned (.bool false) ∧ w' = W := fun W => by rw [← hL]; exact l1In_any D.links 0 1000 W
    go_enter Tryz.func69, Tryz.ntmps69
    go_wp2_with fail
    refine (H1 _).mono ?_
    rintro e w1 ⟨rfl, rfl⟩
    go_wp2_with fail
    refine (H2 _).mono ?_
    rintro e w1 ⟨rfl, rfl⟩
    go_wp2
    go_ret
    exact ⟨ret_bool hfin.out.symm, B0⟩
  | true =>
  have H2 : ∀ W : World, Calls Tryz.prog 68 #[.int .i64 D.links, .int .i64 0, .int .i64 1000] W fun e w' => e = .returned (.bool true) ∧ w' = W := fun W => by rw [← hL]; exact l1In_any D.links 0 1000 W
  have HA : Hid _ := hA
  have HLk : Hid _ := hL
  clear hA hL
  cases hQ0 : (D.links == 0) with
  | _ =>
  cases hQ1 : (D.ino == 1) with
  | _ =>
    first
    | (have hne : ((D.links == 0) == (D.ino == 1)) = false := by rw [hQ0, hQ1]; rfl
       have hfin : Hid (inoOk D = false) := by show _ = _; unfold inoOk; rw [HA.out, HLk.out, hne]; rfl
       go_enter Tryz.func69, Tryz.ntmps69
       go_wp2_with fail
       refine (H1 _).mono ?_
       rintro e w1 ⟨rfl, rfl⟩
       go_wp2_with fail
       refine (H2 _).mono ?_
       rintro e w1 ⟨rfl, rfl⟩
       go_wp2
       go_ret
       exact ⟨ret_bool hfin.out.symm, B0⟩)
    | (have heq : ((D.links == 0) == (D.ino == 1)) = true := by rw [hQ0, hQ1]; rfl
       by_cases hd : 100 < D.data.length
       · have hd' : (100 : Int) < (D.data.length : Int) := by omega
         have hfin : Hid (inoOk D = false) := by show _ = _; unfold inoOk; rw [HA.out, HLk.out, heq, decide_eq_false (by omega : ¬ D.data.length ≤ 100)]; rfl
         go_enter Tryz.func69, Tryz.ntmps69
         go_wp2_with fail
         refine (H1 _).mono ?_
         rintro e w1 ⟨rfl, rfl⟩
         go_wp2_with fail
         refine (H2 _).mono ?_
         rintro e w1 ⟨rfl, rfl⟩
         go_wp2
         go_ret
         exact ⟨ret_bool hfin.out.symm, B0⟩
       · have hd' : ¬ (100 : Int) < (D.data.length : Int) := by omega
         have hfin : Hid (inoOk D = (entsOk D.ents && attsOk D.attrs && kindR D)) := by show _ = _; unfold inoOk; rw [HA.out, HLk.out, heq, decide_eq_true (by omega : D.data.length ≤ 100)]; rfl
         go_enter Tryz.func69, Tryz.ntmps69
         go_wp2_with fail
         refine (H1 _).mono ?_
         rintro e w1 ⟨rfl, rfl⟩
         go_wp2_with fail
         refine (H2 _).mono ?_
         rintro e w1 ⟨rfl, rfl⟩
         go_wp2_with fail
         have h4 := hr.ents.keep B0
         obtain ⟨W0, hW0⟩ : ∃ W, w.alloc (.cells #[.int .i64 D.ino, .int .i64 D.kind, .int .i64 D.links, .slice a1 D.data.length c1, .slice a2 D.ents.length c2, .slice a3 D.attrs.length c3] 46) = W := ⟨_, rfl⟩
         rw [hW0] at B0 z0 h4 ⊢
         clear hW0
         refine (l3Ents_any a2 _ c2 D.ents W0 rfl s2 s4 h4).mono ?_
         rintro e w2 ⟨rfl, hdr⟩
         have b2 : Below W0.heap.size W0 w2 := drewN_below hdr
         have B2 := B0.trans (b2.mono B0.size)
         have z2 := z0.keep b2
         have h5 := hr.attrs.keep B2
         obtain ⟨q0, q1, q2, q3, q4, q5⟩ := z2.six
         clear hdr
         cases hE : entsOk D.ents with
         | false =>
           go_wp2
           go_ret
           exact ⟨ret_bool (by rw [hfin.out, hE]; rfl), B2⟩
         | true =>
           go_wp2_with fail
           refine (l3Attrs_any a3 _ c3 D.attrs w2 rfl s3 s5 h5).mono ?_
           rintro e w3 ⟨rfl, hdr⟩
           have b3 : Below w2.heap.size w2 w3 := drewN_below hdr
           have B3 := B2.trans (b3.mono B2.size)
           have z3 := z2.keep b3
           clear q0 q1 q2 q3 q4 q5 hdr
           obtain ⟨q0, q1, q2, q3, q4, q5⟩ := z3.six
           cases hT : attsOk D.attrs with
           | false =>
             go_wp2
             go_ret
             exact ⟨ret_bool (by rw [hfin.out, hE, hT]; rfl), B3⟩
           | true =>
             have hfin2 : Hid (inoOk D = kindR D) := by show _ = _; rw [hfin.out, hE, hT]; rfl
             have hr' : D.data.length ≤ 1048576 := s1
             have hlk := HLk.out
             simp only [Bool.and_eq_true, decide_eq_true_eq] at hlk
             clear hfin
             rcases (show D.kind = 1 ∨ D.kind = 2 ∨ (D.kind ≠ 1 ∧ D.kind ≠ 2) by omega) with hk | hk | ⟨hk, hk2⟩
             · have hk1 : (D.kind == 1) = true := by rw [hk]; rfl
               have hkr : Hid (kindR D = decide (D.ents.length = 0)) := by show _ = _; unfold kindR; rw [hk]; simp
               by_cases h0 : D.ents.length = 0
               · have h0' : ((D.ents.length : Int) == 0) = true := by rw [h0]; rfl
                 clear hk
                 go_wp2
                 go_ret
                 exact ⟨ret_bool (by rw [hfin2.out, hkr.out, decide_eq_true h0]), B3⟩
               · have h0' : ((D.ents.length : Int) == 0) = false := by simp; intro h; exact h0 (by simp [h])
                 clear hk
                 go_wp2
                 go_ret
                 exact ⟨ret_bool (by rw [hfin2.out, hkr.out, decide_eq_false h0]), B3⟩
             · have hk1 : (D.kind == 1) = false := by rw [hk]; rfl
               have hk2 : (D.kind == 2) = true := by rw [hk]; rfl
               have hkr : Hid (kindR D = (decide (D.data.length = 0) && decide (D.links ≤ 1))) := by show _ = _; unfold kindR; rw [hk]; simp
               by_cases h0 : D.data.length = 0
               · have h0' : ((D.data.length : Int) == 0) = true := by rw [h0]; rfl
                 by_cases hl1 : D.links ≤ 1
                 · clear hk
                   go_wp2
                   go_ret
                   exact ⟨ret_bool (by rw [hfin2.out, hkr.out, decide_eq_true h0, decide_eq_true (by omega : D.links ≤ 1)]; rfl), B3⟩
                 · clear hk
                   go_wp2
                   go_ret
                   exact ⟨ret_bool (by rw [hfin2.out, hkr.out, decide_eq_true h0, decide_eq_false (by omega : ¬ D.links ≤ 1)]; rfl), B3⟩
               · have h0' : ((D.data.length : Int) == 0) = false := by simp; intro h; exact h0 (by simp [h])
                 clear hk
                 go_wp2
                 go_ret
                 exact ⟨ret_bool (by rw [hfin2.out, hkr.out, decide_eq_false h0]; rfl), B3⟩
             · have hk1 : (D.kind == 1) = false := by simp [hk]
               have hk2' : (D.kind == 2) = false := by simp [hk2]
               have hkr : Hid (kindR D = false) := by show _ = _; unfold kindR; simp [hk, hk2]
               clear hk hk2
               go_wp2
               go_ret
               exact ⟨ret_bool (by rw [hfin2.out, hkr.out]), B3⟩)
end
end Go.Proofs.YtnadeelnjhollaaGreat
