/-
  What the specification's l7Put answers: a number put in order.
-/
import Derived.Test.YtfjlemnohjnkhaaGreatJ24F
namespace Go.Proofs.YtfjlemnohjnkhaaGreat
open Go.RowKit
set_option maxRecDepth 100000 in
set_option maxHeartbeats 4000000 in
theorem l7PutS (a : Option Addr) (n cap : Nat) (x : Int) (xs : List Int) (w : World) (hn : xs.length = n) (hs : n ≤ 4000000) (hr : RdV w a (iV xs)) :
    Calls Tryz.prog 100 #[.slice a n cap, .int .i64 x] w fun e w' => ∃ a' c', e = .returned (.slice a' (putI xs x).length c') ∧ RdV w' a' (iV (putI xs x)) ∧ Below w.heap.size w w' := by
  have hcH := l7HasS a n cap x xs w hn hs hr
  by_cases hx : x ∈ xs
  · have hp : putI xs x = xs := by unfold putI; rw [if_pos hx]
    rw [hp, hn]
    have HR : Hid _ := hr
    rw [decide_eq_true hx] at hcH
    clear hr hp hx hn
    go_enter Tryz.func100, Tryz.ntmps100
    go_wp2_with fail
    (with_reducible refine hcH.mono ?_)
    rintro e w1 ⟨rfl, hw1⟩
    obtain rfl := hw1.symm
    clear hcH
    go_wp2
    go_ret
    exact ⟨a, cap, rfl, HR.out, Below.refl _ _⟩
  · have hp : putI xs x = insBy (fun y => decide (x < y)) xs x := by unfold putI; rw [if_neg hx]
    rw [hp, insBy_len, hn]
    rw [decide_eq_false hx] at hcH
    have hn' : Hid (xs.length = n) := hn
    obtain ⟨i0, hi, hz0, hz1, hz2⟩ := info_parts Tryz.info3
    have hfr := fun ty => fresh_vals (w.alloc (.cells #[] 3)) w.heap.size w.heap.size 80 3 i0 (.int .i64 0) 8 Tryz.underlying80 hi hz0 hz1 hz2 rfl (by omega) a n cap (iV xs) (by rw [iV_len, hn]) (by omega) (iV_one xs) (Nat.le_refl _) (empty_row w w.heap.size 3 1 (Nat.le_refl _)) (hr.keep ((Below.refl _ w).alloc (Nat.le_refl _) _)) ty
    have BA : Below w.heap.size w (w.alloc (.cells #[] 3)) := (Below.refl _ w).alloc (Nat.le_refl _) _
    have HF : Hid _ := hfr
    clear hp hx hn hr hfr
    go_enter Tryz.func100, Tryz.ntmps100
    go_wp2_with fail
    (with_reducible refine hcH.mono ?_)
    rintro e w1 ⟨rfl, hw1⟩
    obtain rfl := hw1.symm
    clear hcH
    go_wp2_with (at_builtin; (first | refine wpList_fresh _ rfl (.tmp 11) (.tmp 12) 80 rfl w.heap.size w.heap.size a n cap 3 1 (iV xs) rfl rfl HF.out ?_; intro g1 c1 W1 o1 hg1 hl1 hb1 | refine wpList_app1 (W1.alloc (.cells #[.int .i64 x] 3)) rfl (.tmp 13) (.tmp 15) 80 3 rfl Tryz.underlying80 i0 (.int .i64 0) 8 hi hz0 hz1 hz2 rfl (by omega) w.heap.size g1 n c1 (iV xs) rfl (World.ownsRow.alloc o1 _) W1.heap.size (.int .i64 x) rfl (Blk.new W1 3 #[.int .i64 x] |>.cell 0) rfl (by omega) (by have := BA.size; have := hb1.size; simp at this ⊢; omega) (W1.heap.size + 1) (by simp) ?_; intro g2 c2 W2 o2 hg2 hat2))
    have hb2 : Below w.heap.size w W2 := by
      have h1 : Below w.heap.size w W1 := BA.trans (hb1.mono BA.size)
      have h2 := h1.alloc h1.size (.cells #[.int .i64 x] 3)
      exact h2.grown hg2 h2.size (fun m hm => by simp at hm; omega)
    have o2' : W2.ownsRow w.heap.size 3 1 (.slice (some ⟨g2, 0, none⟩) (n + 1) c2) (n + 1) (iV (xs.take n ++ x :: xs.drop n)) := by
      have e : iV (xs.take n ++ x :: xs.drop n) = iV xs ++ [.int .i64 x] := by
        rw [List.take_of_length_le (by rw [hn'.out]; omega), List.drop_of_length_le (by rw [hn'.out]; omega)]
        simp [iV]
      rw [e]
      exact o2
    have hgl : w.heap.size ≤ g2 := (World.ownsRow.lt o2 g2 rfl).1
    clear o1 o2 hg2 hb1 hat2 HF BA hl1 hi hz0 hz1 hz2
    go_loopw [6] (fun k wr => ∃ (p : Nat) (u : Int), p ≤ n ∧ k = .int .i64 p ∧ wr.ownsRow w.heap.size 3 1 (.slice (some ⟨g2, 0, none⟩) (n + 1) c2) (n + 1) (iV (xs.take p ++ u :: xs.drop p)) ∧ Below w.heap.size w wr ∧ Hid (∀ y ∈ xs.drop p, decide (x < y) = true)) (fun k _ => (intOf k).toNat)
    case atStart => exact ⟨n, x, Nat.le_refl _, by go_num, o2', hb2, fun y hy => by rw [List.drop_of_length_le (by rw [hn'.out]; omega)] at hy; simp at hy⟩
    case round =>
      obtain ⟨p, u, hp, rfl, ho, hb, hgt⟩ := hrel
      clear o2' hb2
      have fin : Hid (∀ W : World, W = wr.setCell ⟨g2, p, none⟩ (.int .i64 x) → (p = 0 ∨ ∃ y, xs[p - 1]? = some y ∧ decide (x < y) = false) → RdV W (some ⟨g2, 0, none⟩) (iV (insBy (fun y => decide (x < y)) xs x)) ∧ Below w.heap.size w W) := by
        intro W hW hc
        subst hW
        have h1 := (World.ownsRow.stored ho p (.int .i64 x)).1
        have e : (iV (xs.take p ++ u :: xs.drop p)).set p (.int .i64 x) = iV (insBy (fun y => decide (x < y)) xs x) := by
          rw [insBy_at (by rw [hn'.out]; exact hp) hgt.out hc]
          unfold iV
          rw [← List.map_set, hole_end u x (by rw [hn'.out]; exact hp)]
        rw [e] at h1
        exact ⟨rowV_rd h1, hb.setCell (p := ⟨g2, p, none⟩) hgl _⟩
      have hlen := hole_len u (show p ≤ xs.length by rw [hn'.out]; exact hp)
      have hcp := World.ownsRow.cellAt ho p (by omega)
      have hfp := World.ownsRow.frozenAt ho p
      obtain ⟨V, hV⟩ : ∃ V, (iV (xs.take p ++ u :: xs.drop p))[p]? = some V := ⟨_, List.getElem?_eq_getElem (by rw [iV_len, hlen, hn'.out]; omega)⟩
      rw [hV] at hcp
      have hpn1 : (p : Int) < ((n + 1 : Nat) : Int) := by omega
      have hp0' : (0 : Int) ≤ (p : Int) := by omega
      rcases Nat.eq_zero_or_pos p with rfl | hpos
      · have HD : Hid _ := fin.out _ rfl (.inl rfl)
        clear fin ho hb hgt hV hlen
        go_wp2
        go_ret
        exact ⟨_, _, rfl, HD.out⟩
      · obtain ⟨q, rfl⟩ : ∃ q, p = q + 1 := ⟨p - 1, by omega⟩
        have hql : q < xs.length := by rw [hn'.out]; omega
        obtain ⟨y, hy⟩ : ∃ y, xs[q]? = some y := ⟨_, List.getElem?_eq_getElem hql⟩
        have hcq := World.ownsRow.cellAt ho q (by omega)
        rw [iV_at (hole_left u (Nat.lt_succ_self q) (by rw [hn'.out]; exact hp) hy)] at hcq
        have hgt0 : (0 : Int) < ((q + 1 : Nat) : Int) := by omega
        have hqn : (q : Int) < ((n + 1 : Nat) : Int) := by omega
        have hq0 : (0 : Int) ≤ (q : Int) := by omega
        have hsub : (((q + 1 : Nat) : Int) - 1) = (q : Int) := by omega
        by_cases hxy : x < y
        · have hst := (World.ownsRow.stored ho (q + 1) (.int .i64 y)).1
          have e : (iV (xs.take (q + 1) ++ u :: xs.drop (q + 1))).set (q + 1) (.int .i64 y) = iV (xs.take q ++ y :: xs.drop q) := by
            unfold iV
            rw [← List.map_set, hole_step u hy]
          rw [e] at hst
          have hb' := hb.setCell (p := ⟨g2, q + 1, none⟩) hgl (.int .i64 y)
          have hgt' : Hid (∀ z ∈ xs.drop q, decide (x < z) = true) := fun z hz => by
            rcases drop_mem hy hz with rfl | hz
            · exact decide_eq_true hxy
            · exact hgt.out z hz
          clear fin ho hb hgt hV hlen e
          go_wp2
          go_roundw
          case rel => exact ⟨q, y, by omega, by go_num, hst, hb', hgt'⟩
          case measure => simp [intOf]
        · have HD : Hid _ := fin.out _ rfl (.inr ⟨y, by rw [Nat.add_sub_cancel]; exact hy, decide_eq_false hxy⟩)
          clear fin ho hb hgt hV hlen
          go_wp2
          go_ret
          first | exact ⟨_, _, rfl, HD.out⟩ | exact ⟨_, ⟨_, rfl⟩, HD.out⟩
end Go.Proofs.YtfjlemnohjnkhaaGreat
