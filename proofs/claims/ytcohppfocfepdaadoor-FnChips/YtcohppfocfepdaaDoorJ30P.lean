/-
  Joined: DrEr, SamL.
-/
import Derived.Test.YtcohppfocfepdaaDoorJ29P
namespace Go.Proofs.YtcohppfocfepdaaDoor
section
open Go.RowKit
set_option maxHeartbeats 1000000 in
theorem l10Blk_any (gc n cap : Nat) (a : Option Addr) (zs : List Int) (w : World) (h : Src w gc n cap a zs) :
    Calls Tryd.prog 20 #[.pointer (some ⟨gc, 0, none⟩)] w fun e w' => ∃ x : Int, e = .returned (.int .i64 x) ∧ (-1 ≤ x ∧ x ≤ 24) ∧ Src w' gc n cap a zs ∧ w.grownBy w' (some gc) := by
  have hgc := h.cur.lt
  have hcl : ∀ j, j < 7 → (w.alloc (.cells #[.int .i64 0, .int .i64 1, .int .i64 2, .int .i64 3, .int .i64 4, .int .i64 (-1), .int .i64 24] 3)).cell? ⟨w.heap.size, j, none⟩ = some (.int .i64 (([0, 1, 2, 3, 4, -1, 24] : List Int).getD j 0)) := fun j hj => ints_cells w [0, 1, 2, 3, 4, -1, 24] 3 j hj
  have HCL : Hid _ := hcl
  clear hcl
  go_enter Tryd.func20, Tryd.ntmps20
  go_wp2_with fail
  refine (int_step gc n cap a zs w.heap.size 7 [0, 1, 2, 3, 4, -1, 24] _ (h.alloc _) rfl (by omega) (by omega) (by omega) HCL.out).mono ?_
  rintro e w1 ⟨k, rfl, hk, hs1, hg1⟩
  have hin : -1 ≤ ([0, 1, 2, 3, 4, -1, 24] : List Int).getD k 0 ∧ ([0, 1, 2, 3, 4, -1, 24] : List Int).getD k 0 ≤ 24 := by
    rcases (show k = 0 ∨ k = 1 ∨ k = 2 ∨ k = 3 ∨ k = 4 ∨ k = 5 ∨ k = 6 by omega) with rfl | rfl | rfl | rfl | rfl | rfl | rfl <;> simp
  generalize ([0, 1, 2, 3, 4, -1, 24] : List Int).getD k 0 = x at hin ⊢
  go_wp2
  go_ret
  exact ⟨x, rfl, hin, hs1, gr_mono (World.grownBy_alloc w _ _) (.inl rfl) hg1⟩
/-- A drawn chip that can be read, and a number. -/
def DrawnEr (w : World) (e : Ending) (w' : World) : Prop := ∃ va vn vc qs x, e = .returned (.tuple #[.agg #[.slice va vn vc], .int .i64 x]) ∧ CR w' va vn qs ∧ vn ≤ 24 ∧ (-1 ≤ x ∧ x ≤ 24) ∧ Below w.heap.size w w'
set_option maxRecDepth 100000 in
set_option maxHeartbeats 2000000 in
theorem drawErase_any (a : Option Addr) (n cap : Nat) (zs : List Int) (w : World) (hn : zs.length = n) (hs : n ≤ 1048576) (hr : Rd w a zs) (hb : Byt zs) :
    Calls Tryd.prog 6 #[.slice a n cap] w (DrawnEr w) := by
  have b0 : Below w.heap.size w (w.alloc (.cells #[.slice none 0 0] 26)) := (Below.refl _ w).alloc (Nat.le_refl _) _
  have z0 := Blk.new w 26 #[.slice none 0 0]
  have hsz : (w.alloc (.cells #[.slice none 0 0] 26)).heap.size = w.heap.size + 1 := by simp
  have HSZ : Hid _ := hsz
  have HB0 : Hid _ := b0
  obtain ⟨P, hP⟩ : ∃ P, DrawnEr w = P := ⟨_, rfl⟩
  have HP : Hid _ := hP
  rw [hP]
  clear hsz hP
  go_enter Tryd.func6, Tryd.ntmps6
  go_wp2_with fail
  refine (new_step a n cap zs _ hn hs (hr.keep b0) hb).mono ?_
  rintro e w1 ⟨rfl, s1, b1⟩
  have zr := z0.keep b1
  have B1 := HB0.out.trans (b1.mono HB0.out.size)
  rw [HSZ.out] at s1 ⊢
  have hsz1 := b1.size
  rw [HSZ.out] at hsz1
  have hgcl := s1.cur.lt
  clear z0 b0 b1 hr hb hn
  go_wp2_with fail
  (with_reducible refine (l10AnyS _ n cap a zs w1 s1).mono ?_)
  rintro e w2 ⟨va, vn, vc, qs, rfl, hA, hvn, s2, sv2⟩
  have zr2 : Blk w2 w.heap.size 26 #[.slice none 0 0] := Blk.svs zr sv2 (by simp)
  have B2 : Below w.heap.size w w2 := Below.svs B1 sv2 (fun m hm => by simp at hm; omega) (Nat.le_refl _)
  clear s1 zr B1
  go_wp2_with fail
  (with_reducible refine (l10Blk_any _ n cap a zs w2 s2).mono ?_)
  rintro e w3 ⟨x, rfl, hx, s3, g3⟩
  have sv3 := sv_grown g3
  have zr3 : Blk w3 w.heap.size 26 #[.slice none 0 0] := Blk.svs zr2 sv3 (by simp)
  have B3 : Below w.heap.size w w3 := Below.svs B2 sv3 (fun m hm => by simp at hm; omega) (Nat.le_refl _)
  have hA3 := hA.svs sv3 (fun g hg => by simp at hg; omega)
  have r0 := zr3.cell 0
  have f0 := zr3.frozen 0
  have d0 := (zr3.set 0 (.slice va vn vc)).cell 0
  simp at r0 d0
  have HO : Hid (CR (w3.setCell ⟨w.heap.size, 0, none⟩ (.slice va vn vc)) va vn qs) := (ACR.far (i := 0) hA3 (show w.heap.size < w1.heap.size by omega) (.slice va vn vc)).cr
  have HBF : Hid _ := B3.setCell (p := ⟨w.heap.size, 0, none⟩) (Nat.le_refl _) (.slice va vn vc)
  clear zr2 zr3 B2 B3 s2 s3 sv2 sv3 g3 hA hA3
  go_wp2
  refine bodyPost_ret (v := .tuple #[.agg #[.slice va vn vc], .int .i64 x]) (by simp [results, Tryd.f6, go_sem, d0]) rfl ?_
  rw [← HP.out]
  exact ⟨va, vn, vc, qs, x, rfl, HO.out, hvn, hx, HBF.out⟩
end

section
open Go.RowKit
set_option maxHeartbeats 1000000 in
theorem sameLb_any (a a' : Option Addr) (n m cap cap' : Nat) (zs ys : List Int) (w : World) (hn : zs.length = n) (hm : ys.length = m) (hs : n ≤ 4000000) (hs' : m ≤ 4000000) (hr : Rd w a zs) (hr' : Rd w a' ys) :
    Calls Tryd.prog 17 #[.slice a n cap, .slice a' m cap'] w fun e w' => e = .returned (.bool (decide (zs = ys))) ∧ ∃ d, w' = w.drewN d := by
  by_cases hnm : n = m
  · subst hnm
    by_cases h0 : n = 0
    · subst h0
      obtain rfl : zs = [] := List.length_eq_zero_iff.1 hn
      obtain rfl : ys = [] := List.length_eq_zero_iff.1 hm
      go_enter Tryd.func17, Tryd.ntmps17
      go_wp2
      refine wp_loop_rounds 1 ?_; rw [rounds_succ]
      go_wp2
      go_ret
      exact ⟨rfl, 0, rfl⟩
    · obtain ⟨b, off, rfl, hlt, hc⟩ := hr.lt (by intro h; subst h; simp at hn; omega)
      obtain ⟨b', off', rfl, hlt', hc'⟩ := hr'.lt (by intro h; subst h; simp at hm; omega)
      have HC : Hid _ := hc
      have HC' : Hid _ := hc'
      have hn' : Hid (zs.length = n) := hn
      have hm' : Hid (ys.length = n) := hm
      clear hr hr' hc hc' hn hm
      go_enter Tryd.func17, Tryd.ntmps17
      go_wp2
      go_loopw [5] (fun i wr => ∃ k d : Nat, k ≤ n ∧ i = .int .i64 k ∧ wr = w.drewN d ∧ Hid (∀ j, j < k → zs.getD j 0 = ys.getD j 0)) (fun i _ => n - (intOf i).toNat)
      case atStart => exact ⟨0, 0, Nat.zero_le _, rfl, rfl, fun j hj => by omega⟩
      case round =>
        obtain ⟨k, d, hk, rfl, hwr0, hall⟩ := hrel
        have hwr : Hid (wr = w.drewN d) := hwr0
        have hcells : ∀ p, wr.cell? p = w.cell? p := fun p => by rw [hwr0]; rfl
        clear hwr0
        by_cases hkn : k < n
        · have hki : (k : Int) < (n : Int) := by omega
          have x1 := HC.out k (by rw [hn'.out]; exact hkn)
          have y1 := HC'.out k (by rw [hm'.out]; exact hkn)
          rw [← hcells] at x1 y1
          have hyes : zs.getD k 0 = ys.getD k 0 → ∀ j, j < k + 1 → zs.getD j 0 = ys.getD j 0 := by
            intro e j hj
            rcases (show j < k ∨ j = k by omega) with hj | rfl
            · exact hall.out j hj
            · exact e
          have hno : zs.getD k 0 ≠ ys.getD k 0 → decide (zs = ys) = false := fun e => decide_eq_false (fun e' => e (by rw [e']))
          obtain ⟨z, hz⟩ : ∃ z, zs.getD k 0 = z := ⟨_, rfl⟩
          obtain ⟨y, hy⟩ : ∃ y, ys.getD k 0 = y := ⟨_, rfl⟩
          rw [hz] at x1 hyes hno
          rw [hy] at y1 hyes hno
          by_cases heq : z = y
          · have heq' : (z == y) = true := by simp [heq]
            have hnx : Hid _ := hyes heq
            clear hyes hno heq hz hy hcells hall
            go_wp2
            go_quiet (fail)
            go_wp2
            go_roundw
            case rel => exact ⟨k + 1, d + nq, by omega, by go_num, by rw [hwr.out, World.drewN_drewN], hnx⟩
            case measure => simp [intOf]; omega
          · have heq' : (z == y) = false := by simp [heq]
            have hfin : Hid _ := hno heq
            clear hyes hno heq hz hy hcells hall
            go_wp2
            go_quiet (fail)
            go_wp2
            go_ret
            exact ⟨ret_bool hfin.out.symm, d + nq, by rw [hwr.out, World.drewN_drewN]⟩
        · have hki : ¬ (k : Int) < (n : Int) := by omega
          have hfin : Hid (decide (zs = ys) = true) := decide_eq_true (List.ext_getElem (by rw [hn'.out, hm'.out]) (fun j h h' => by
            have := hall.out j (by rw [hn'.out] at h; omega)
            simpa [h, h'] using this))
          clear hcells hall
          go_wp2
          go_ret
          exact ⟨ret_bool hfin.out.symm, d, hwr.out⟩
  · have hne : Hid (decide (zs = ys) = false) := decide_eq_false (fun e => hnm (by rw [← hn, ← hm, e]))
    have hnm' : ((n : Int) == (m : Int)) = false := by simp; omega
    clear hr hr' hn hm hnm
    go_enter Tryd.func17, Tryd.ntmps17
    go_wp2
    go_ret
    exact ⟨ret_bool hne.out.symm, 0, rfl⟩
end
end Go.Proofs.YtcohppfocfepdaaDoor
