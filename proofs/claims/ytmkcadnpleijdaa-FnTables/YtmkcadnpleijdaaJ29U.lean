/-
  Joined: TbC, FnS.
-/
import Derived.Test.YtmkcadnpleijdaaJ27U
import Derived.Test.YtmkcadnpleijdaaJ28U
import Derived.Deep.AppendSrc
namespace Go.Proofs.Ytmkcadnpleijdaa
section
open Go.RowKit
/-- Drawn bytes, in memory of their own. -/
def DrawnC (w : World) (e : Ending) (w' : World) : Prop := ∃ (g m c : Nat) (ys : List Int), e = .returned (.slice (some ⟨g, 0, none⟩) m c) ∧ w.heap.size ≤ g ∧ Own w' g m c ys ∧ Byt ys ∧ m ≤ 401 ∧ Below w.heap.size w w'
theorem conv_u8 (q : Int) (h0 : 0 ≤ q) (h1 : q ≤ 255) : IntKind.u8.wrap q = q := by rw [IntKind.wrap_u8]; omega
theorem i5_in (k : Nat) (h : k < 5) : 0 ≤ ([0, 1, 2, 97, 128] : List Int).getD k 0 ∧ ([0, 1, 2, 97, 128] : List Int).getD k 0 ≤ 255 := by
  rcases (show k = 0 ∨ k = 1 ∨ k = 2 ∨ k = 3 ∨ k = 4 by omega) with rfl | rfl | rfl | rfl | rfl <;> simp
theorem byt_setI {zs : List Int} (h : Byt zs) (k : Nat) (v : Int) (h0 : 0 ≤ v) (h1 : v ≤ 255) : Byt (zs.set k v) := by
  intro z hz
  rcases List.mem_or_eq_of_mem_set hz with h2 | h2
  · exact h z h2
  · omega
set_option maxRecDepth 100000 in
set_option maxHeartbeats 4000000 in
theorem drawGetTable_any (a : Option Addr) (n cap : Nat) (zs : List Int) (w : World) (hn : zs.length = n) (hs : n ≤ 1048576) (hr : Rd w a zs) (hb : Byt zs) :
    Calls Try.prog 10 #[.slice a n cap] w (DrawnC w) := by
  obtain ⟨P, hP⟩ : ∃ P, DrawnC w = P := ⟨_, rfl⟩
  have HP : Hid _ := hP
  rw [hP]
  clear hP
  go_enter Try.func10, Try.ntmps10
  go_wp2_with fail
  refine (new_step a n cap zs _ hn hs hr hb).mono ?_
  rintro e w1 ⟨rfl, s1, b1⟩
  obtain ⟨gc, hgc⟩ : ∃ g, w.heap.size = g := ⟨_, rfl⟩
  have HG : Hid (w.heap.size = gc) := hgc
  rw [hgc] at s1 ⊢
  have hs1 := s1.cur.lt
  have HB1 : Hid (Below w.heap.size w w1) := b1
  clear hr hb hn b1 hgc
  go_wp2_with fail
  refine (l15DrawS gc n cap a zs w1 s1).mono ?_
  rintro e w2 ⟨v, ps, rfl, hl, hpg, ho, s2, g2⟩
  have hok := hpg.ok hl
  have HB2 : Hid (Below w.heap.size w w2) := HB1.out.grown g2 HB1.out.size (fun m hm => by simp at hm; have := HG.out; omega)
  have hs2 := s2.cur.lt
  obtain ⟨va, vc, rfl, hrd⟩ := rowR_form ho
  clear s1 g2
  go_wp2_with fail
  refine (putTableS_yes 9 va ps.length vc ps w2 ⟨rfl, by omega, hpg.small, hrd⟩ hok).mono ?_
  rintro e w3 ⟨g1, c1, rfl, hg1, o3, b3⟩
  have hpl := tbT_len 9 ps.length ps ps.length (tb_names hok)
  rw [tbT_all 9 _ ps rfl] at hpl
  have hne := tbEnc_ne 9 ps
  have hzb : Byt (tbEnc 9 ps) := by have := tbPut_byt 9 ps; unfold tbPut at this; rw [if_pos hok] at this; exact this
  have hzl := o3.len
  generalize tbEnc 9 ps = Z at o3 hpl hzb hzl hne
  obtain ⟨L, hL⟩ : ∃ L, Z.length = L := ⟨_, rfl⟩
  rw [hL] at o3 hzl hpl hne ⊢
  have HZ : Hid (Byt Z) := hzb
  have HZL : Hid (Z.length = L) := hL
  have HB3 : Hid (Below w.heap.size w w3) := HB2.out.trans (b3.mono HB2.out.size)
  have s3 := s2.keep b3
  have hg1w : gc < g1 := by omega
  have hc1 : L ≤ c1 := by
    rcases o3.2 with ⟨h1, h2⟩ | ⟨g', c', cur, h1, _, _, h2, _⟩
    · simp at h1
    · simp only [Value.slice.injEq] at h1; omega
  clear ho hok hrd hpg s2 hL hzb hzl b3 hg1
  go_wp2_with fail
  refine (below_step gc n cap a zs 5 w3 s3 (by omega) (by omega)).mono ?_
  rintro e w4 ⟨x, rfl, hx, s4, g4⟩
  have o4 := o3.kept g4 (by omega)
  have HB4 : Hid (Below w.heap.size w w4) := HB3.out.grown g4 HB3.out.size (fun m hm => by simp at hm; have := HG.out; omega)
  clear s3 g4 o3
  by_cases h0 : x = 0
  · subst h0
    go_wp2_with fail
    refine (below_step gc n cap a zs L w4 s4 (by omega) (by omega)).mono ?_
    rintro e w5 ⟨k, rfl, hk, s5, g5⟩
    have o5 := o4.kept g5 (by omega)
    have hl5 := s5.cur.lt
    have HB5 : Hid (Below w.heap.size w w5) := HB4.out.grown g5 HB4.out.size (fun m hm => by simp at hm; have := HG.out; omega)
    have hcl : ∀ j, j < 5 → (w5.alloc (.cells #[.int .i64 0, .int .i64 1, .int .i64 2, .int .i64 97, .int .i64 128] 3)).cell? ⟨w5.heap.size, j, none⟩ = some (.int .i64 (([0, 1, 2, 97, 128] : List Int).getD j 0)) := fun j hj => ints_cells w5 [0, 1, 2, 97, 128] 3 j hj
    have HCL : Hid _ := hcl
    have hL5 := o5.lt
    clear hcl s4 g5 o4
    go_wp2_with fail
    refine (int_step gc n cap a zs w5.heap.size 5 [0, 1, 2, 97, 128] _ (s5.alloc _) rfl (by omega) (by omega) (by omega) HCL.out).mono ?_
    rintro e w6 ⟨k5, rfl, hk5, s6, g6⟩
    have o6 : Own w6 g1 L c1 Z := Own.kept (World.ownsRow.alloc o5 _) g6 (by omega)
    have HB6 : Hid (Below w.heap.size w w6) := (HB5.out.alloc HB5.out.size _).grown g6 (by have := HB5.out.size; simp; omega) (fun m hm => by simp at hm; have := HG.out; omega)
    obtain ⟨hq0, hq1⟩ := i5_in k5 hk5
    generalize ([0, 1, 2, 97, 128] : List Int).getD k5 0 = q at hq0 hq1 ⊢
    have hwq := conv_u8 q hq0 hq1
    have hf6 := World.ownsRow.frozenAt o6 k
    have hc6 := World.ownsRow.cellAt o6 k (by omega)
    obtain ⟨q', hq', _⟩ := byt_at HZ.out k
    rw [cells_getD _ _ (by rw [HZL.out]; exact hk), hq'] at hc6
    have HO6 : Hid _ := own_stored o6 k q
    have HB7 : Hid _ := HB6.out.setCell (p := ⟨g1, k, none⟩) (by show w.heap.size ≤ g1; have := HG.out; omega) (.int .u8 q)
    have HBS : Hid _ := byt_setI HZ.out k q hq0 hq1
    clear o5 o6 s5 s6 g6 HCL hq'
    go_wp2
    rw [← HP.out]
    exact ⟨g1, L, c1, Z.set k q, rfl, by have := HG.out; omega, HO6.out, HBS.out, by omega, HB7.out⟩
  have hx0 : ((x : Int) == 0) = false := by simpa using h0
  by_cases h1 : x = 1
  · subst h1
    go_wp2_with fail
    refine (below_step gc n cap a zs L w4 s4 (by omega) (by omega)).mono ?_
    rintro e w5 ⟨k, rfl, hk, s5, g5⟩
    have o5 := own_cut (o4.kept g5 (by omega)) (Nat.le_of_lt hk)
    have HB5 : Hid (Below w.heap.size w w5) := HB4.out.grown g5 HB4.out.size (fun m hm => by simp at hm; have := HG.out; omega)
    have hkc : ¬ (c1 : Int) < (k : Int) := by omega
    have hk0 : ¬ (k : Int) < 0 := by omega
    have HO : Hid _ := o5
    clear o4 o5 s5 g5 s4
    go_wp2
    rw [← HP.out]
    exact ⟨g1, k, c1, Z.take k, rfl, by have := HG.out; omega, HO.out, Byt.take HZ.out k, by omega, HB5.out⟩
  have hx1 : ((x : Int) == 1) = false := by simp; omega
  by_cases h2 : x = 2
  · subst h2
    go_wp2_with (at_builtin; refine wpList_app _ rfl (.tmp 34) (.tmp 35) rfl g1 L c1 Z rfl (World.ownsRow.alloc o4 _) ⟨w4.heap.size, 0, none⟩ 1 1 [0] rfl rfl (one_news w4 _) (by omega) (w4.heap.size + 1) (by simp) ?_; intro g c w5 ho5 hg5 ha5)
    have HB5 : Hid (Below w.heap.size w w5) := (HB4.out.alloc HB4.out.size _).grown hg5 (by have := HB4.out.size; simp; omega) (fun m hm => by simp at hm; have := HG.out; omega)
    rw [← HP.out]
    refine ⟨g, L + 1, c, Z ++ [0], rfl, ?_, ho5, (fun z hz => by rcases List.mem_append.1 hz with h | h; exact HZ.out z h; simp at h; omega), by omega, HB5.out⟩
    have := HG.out
    have := HB4.out.size
    rcases ha5 with h | h <;> omega
  have hx2 : ((x : Int) == 2) = false := by simp; omega
  go_wp2
  rw [← HP.out]
  exact ⟨g1, L, c1, Z, rfl, by have := HG.out; omega, o4, HZ.out, by omega, HB4.out⟩
end

section
open Go.RowKit
set_option maxHeartbeats 1000000 in
theorem sameL_any (a a' : Option Addr) (n m cap cap' : Nat) (zs ys : List Int) (w : World) (hn : zs.length = n) (hm : ys.length = m) (hs : n ≤ 4000000) (hs' : m ≤ 4000000) (hr : Rd w a zs) (hr' : Rd w a' ys) :
    Calls Try.prog 14 #[.slice a n cap, .slice a' m cap'] w fun e w' => e = .returned (.bool (decide (zs = ys))) ∧ ∃ d, w' = w.drewN d := by
  by_cases hnm : n = m
  · subst hnm
    by_cases h0 : n = 0
    · subst h0
      obtain rfl : zs = [] := List.length_eq_zero_iff.1 hn
      obtain rfl : ys = [] := List.length_eq_zero_iff.1 hm
      go_enter Try.func14, Try.ntmps14
      go_wp2
      refine wp_loop_rounds 1 ?_; rw [rounds_succ]
      go_wp2
      go_ret
      exact ⟨rfl, 0, rfl⟩
    · obtain ⟨b, off, rfl, hlt, hc⟩ := hr.lt (by intro h; subst h; simp at hn; omega)
      obtain ⟨b', off', rfl, hlt', hc'⟩ := hr'.lt (by intro h; subst h; simp at hm; omega)
      have HC : Hid _ := hc
      have HC' : Hid _ := hc'
      have hn' : Hid (zs.length = n) := hn
      have hm' : Hid (ys.length = n) := hm
      clear hr hr' hc hc' hn hm
      go_enter Try.func14, Try.ntmps14
      go_wp2
      go_loopw [5] (fun i wr => ∃ k d : Nat, k ≤ n ∧ i = .int .i64 k ∧ wr = w.drewN d ∧ Hid (∀ j, j < k → zs.getD j 0 = ys.getD j 0)) (fun i _ => n - (intOf i).toNat)
      case atStart => exact ⟨0, 0, Nat.zero_le _, rfl, rfl, fun j hj => by omega⟩
      case round =>
        obtain ⟨k, d, hk, rfl, hwr0, hall⟩ := hrel
        have hwr : Hid (wr = w.drewN d) := hwr0
        have hcells : ∀ p, wr.cell? p = w.cell? p := fun p => by rw [hwr0]; rfl
        clear hwr0
        by_cases hkn : k < n
        · have hki : (k : Int) < (n : Int) := by omega
          have x1 := HC.out k (by rw [hn'.out]; exact hkn)
          have y1 := HC'.out k (by rw [hm'.out]; exact hkn)
          rw [← hcells] at x1 y1
          have hyes : zs.getD k 0 = ys.getD k 0 → ∀ j, j < k + 1 → zs.getD j 0 = ys.getD j 0 := by
            intro e j hj
            rcases (show j < k ∨ j = k by omega) with hj | rfl
            · exact hall.out j hj
            · exact e
          have hno : zs.getD k 0 ≠ ys.getD k 0 → decide (zs = ys) = false := fun e => decide_eq_false (fun e' => e (by rw [e']))
          obtain ⟨z, hz⟩ : ∃ z, zs.getD k 0 = z := ⟨_, rfl⟩
          obtain ⟨y, hy⟩ : ∃ y, ys.getD k 0 = y := ⟨_, rfl⟩
          rw [hz] at x1 hyes hno
          rw [hy] at y1 hyes hno
          by_cases heq : z = y
          · have heq' : (z == y) = true := by simp [heq]
            have hnx : Hid _ := hyes heq
            clear hyes hno heq hz hy hcells hall
            go_wp2
            go_quiet (fail)
            go_wp2
            go_roundw
            case rel => exact ⟨k + 1, d + nq, by omega, by go_num, by rw [hwr.out, World.drewN_drewN], hnx⟩
            case measure => simp [intOf]; omega
          · have heq' : (z == y) = false := by simp [heq]
            have hfin : Hid _ := hno heq
            clear hyes hno heq hz hy hcells hall
            go_wp2
            go_quiet (fail)
            go_wp2
            go_ret
            exact ⟨ret_bool hfin.out.symm, d + nq, by rw [hwr.out, World.drewN_drewN]⟩
        · have hki : ¬ (k : Int) < (n : Int) := by omega
          have hfin : Hid (decide (zs = ys) = true) := decide_eq_true (List.ext_getElem (by rw [hn'.out, hm'.out]) (fun j h h' => by
            have := hall.out j (by rw [hn'.out] at h; omega)
            simpa [h, h'] using this))
          clear hcells hall
          go_wp2
          go_ret
          exact ⟨ret_bool hfin.out.symm, d, hwr.out⟩
  · have hne : Hid (decide (zs = ys) = false) := decide_eq_false (fun e => hnm (by rw [← hn, ← hm, e]))
    have hnm' : ((n : Int) == (m : Int)) = false := by simp; omega
    clear hr hr' hn hm hnm
    go_enter Try.func14, Try.ntmps14
    go_wp2
    go_ret
    exact ⟨ret_bool hne.out.symm, 0, rfl⟩
theorem gr6 (W : World) (H : Nat) (v0 v1 v2 v3 v4 v5 : Value) : W.grownBy ((((((W.setCell ⟨H, 0, none⟩ v0).setCell ⟨H, 1, none⟩ v1).setCell ⟨H, 2, none⟩ v2).setCell ⟨H, 3, none⟩ v3).setCell ⟨H, 4, none⟩ v4).setCell ⟨H, 5, none⟩ v5) (some H) :=
  gr_more (gr_more (gr_more (gr_more (gr_more (gr_setC W H 0 v0) 1 v1) 2 v2) 3 v3) 4 v4) 5 v5
end
end Go.Proofs.Ytmkcadnpleijdaa
