/-
  Joined: ToTab, EqCh.
-/
import Derived.Test.YtcocjffjhbpoeaaJ07X
namespace Go.Proofs.Ytcocjffjhbpoeaa
section
open Go.RowKit
theorem gr_more {w w1 : World} {g : Nat} (h : w.grownBy w1 (some g)) (j : Nat) (v : Value) : w.grownBy (w1.setCell ⟨g, j, none⟩ v) (some g) :=
  ⟨h.os, h.tape, h.output, by rw [size_setC]; exact h.size, fun m hm hk => (heap_setCell_other w1 ⟨g, j, none⟩ m v (fun e => hk (by simp [e]))).trans (h.block m hm hk)⟩
theorem set_mid {α : Type} (l : List α) (x z : α) (m : Nat) (h : 0 < m) : (l ++ List.replicate m z).set l.length x = (l ++ [x]) ++ List.replicate (m - 1) z := by
  obtain ⟨m, rfl⟩ : ∃ q, m = q + 1 := ⟨m - 1, by omega⟩
  rw [List.set_append_right _ _ (Nat.le_refl _), Nat.sub_self, List.replicate_succ, List.set_cons_zero]
  simp
end

section
open Go.RowKit
set_option maxHeartbeats 1600000 in
theorem eqPage_same (u : Bool) (a a' : Option Addr) (n cap cap' : Nat) (zs : List Int) (w : World) (hn : zs.length = n) (hs : n ≤ 4000000) (hr : Rd w a zs) (hr' : Rd w a' zs) :
    Calls Try.prog 136 #[.agg #[.bool u, .slice a n cap], .agg #[.bool u, .slice a' n cap']] w fun e w' => e = .returned (.bool true) ∧ Below w.heap.size w w' := by
  have B0 : Below w.heap.size w ((w.alloc (.cells #[.bool u, .slice a n cap] 90)).alloc (.cells #[.bool u, .slice a' n cap'] 90)) := ((Below.refl _ w).alloc (Nat.le_refl _) _).alloc (by simp) _
  have z0 := (Blk.new w 90 #[.bool u, .slice a n cap]).alloc (.cells #[.bool u, .slice a' n cap'] 90)
  have z1 := Blk.new (w.alloc (.cells #[.bool u, .slice a n cap] 90)) 90 #[.bool u, .slice a' n cap']
  simp only [World.size_alloc] at z1
  have hcall := eqByteS_true a a' n cap cap' zs _ hn hs (hr.keep B0) (hr'.keep B0)
  have hu : (u != u) = false := by simp
  obtain ⟨q0, q1⟩ : _ ∧ _ := ⟨z0.cell 0, z0.cell 1⟩
  obtain ⟨p0, p1⟩ : _ ∧ _ := ⟨z1.cell 0, z1.cell 1⟩
  simp at q0 q1 p0 p1
  have HB : Hid _ := B0
  clear hr hr' hn z0 z1 B0
  go_enter Try.func136, Try.ntmps136
  go_wp2_with fail
  refine hcall.mono ?_
  rintro e w1 ⟨rfl, hb1⟩
  clear q0 q1 p0 p1 hcall
  go_wp2
  go_ret
  exact ⟨rfl, HB.out.trans (hb1.mono HB.out.size)⟩
theorem same_at {α δ : Type} {f : α → δ} {ps qs : List α} (h : qs.map f = ps.map f) {k : Nat} {r : α} (hr : ps[k]? = some r) : ∃ t, qs[k]? = some t ∧ f t = f r := by
  have := congrArg (fun l => l[k]?) h
  simp only [List.getElem?_map, hr, Option.map_some] at this
  cases ht : qs[k]? with
  | none => rw [ht] at this; simp at this
  | some t => rw [ht] at this; simp at this; exact ⟨t, rfl, this⟩
set_option maxHeartbeats 3200000 in
theorem eqPageS_same (a a' : Option Addr) (n cap cap' : Nat) (ps qs : List PgR) (w : World) (hn : ps.length = n) (hD : qs.map PgR.D = ps.map PgR.D) (hs : totP (ps.map PgR.D) ≤ 4000000) (hr : RdPs w a ps) (hr' : RdPs w a' qs) :
    Calls Try.prog 123 #[.slice a n cap, .slice a' n cap'] w fun e w' => e = .returned (.bool true) ∧ Below w.heap.size w w' := by
  have hnt : qs.length = n := by have := congrArg List.length hD; simp at this; omega
  have hl := totP_len (ps.map PgR.D)
  have hnn : n ≤ 4000000 := by simp at hl; omega
  clear hl
  by_cases h0 : n = 0
  · subst h0
    go_enter Try.func123, Try.ntmps123
    go_wp2
    refine wp_loop_rounds 1 ?_; rw [rounds_succ]
    go_wp2
    go_ret
    exact ⟨rfl, Below.refl _ _⟩
  · obtain ⟨b, off, rfl, hlt, hc⟩ := hr.lt (by intro h; subst h; simp at hn; omega)
    obtain ⟨b', off', rfl, hlt', hc'⟩ := hr'.lt (by intro h; subst h; simp at hnt; omega)
    have hn' : Hid (ps.length = n) := hn
    have HC : Hid _ := hc
    have HC' : Hid _ := hc'
    have HS : Hid _ := hs
    have HD : Hid _ := hD
    clear hr hr' hn hc hc' hs hD hnt
    go_enter Try.func123, Try.ntmps123
    go_wp2
    go_loopw [5] (fun i wr => ∃ k : Nat, k ≤ n ∧ i = .int .i64 k ∧ Below w.heap.size w wr) (fun i _ => n - (intOf i).toNat)
    case atStart => exact ⟨0, Nat.zero_le _, rfl, Below.refl _ _⟩
    case round =>
      obtain ⟨k, hk, rfl, hB⟩ := hrel
      by_cases hkn : k < n
      · have hkl : k < ps.length := by rw [hn'.out]; exact hkn
        have hki : (k : Int) < (n : Int) := by omega
        obtain ⟨r, hrk⟩ : ∃ r, ps[k]? = some r := ⟨_, List.getElem?_eq_getElem hkl⟩
        obtain ⟨t, htk, hrt⟩ := same_at HD.out hrk
        obtain ⟨x6, xr⟩ := HC.out k r hrk
        obtain ⟨y6, yr⟩ := HC'.out k t htk
        unfold PgR.D at hrt
        simp only [PgD.mk.injEq] at hrt
        obtain ⟨e1, e2⟩ := hrt
        have htot := totP_at hrk
        have hs := HS.out
        rw [e2] at yr
        have hcd := eqPage_same r.used r.a t.a r.zs.length r.cap t.cap r.zs wr.drew rfl (by omega) (Rd.keep xr hB.drew) (Rd.keep yr hB.drew)
        obtain ⟨x0, x1⟩ := x6.keep hB hlt
        obtain ⟨y0, y1⟩ := y6.keep hB hlt'
        rw [e1] at y0
        rw [e2] at y1
        have hwz := hB.size
        obtain ⟨n1, hn1⟩ : ∃ n, r.zs.length = n := ⟨_, rfl⟩
        rw [hn1] at x1 hcd y1
        clear x6 y6 xr yr hn1 hrk htk e1 e2 hkl htot hs
        go_wp2
        go_region_with ((go_at_call 136; (with_reducible refine hcd.mono ?_); rintro e w1 ⟨rfl, hb1⟩))
        all_goals go_wp2
        all_goals go_roundw
        all_goals first
          | (case rel => exact ⟨k + 1, by omega, by go_num, hB.drew.trans (hb1.mono hwz)⟩)
          | (case measure => simp [intOf]; omega)
      · have hki : ¬ (k : Int) < (n : Int) := by omega
        go_wp2
        go_ret
        exact ⟨rfl, hB⟩
set_option maxHeartbeats 1600000 in
theorem eqBlock_same (a a' : Option Addr) (n cap cap' : Nat) (wear : Int) (bad : Bool) (ps qs : List PgR) (w : World) (hn : ps.length = n) (hD : qs.map PgR.D = ps.map PgR.D) (hs : totP (ps.map PgR.D) ≤ 4000000) (hr : RdPs w a ps) (hr' : RdPs w a' qs) :
    Calls Try.prog 105 #[.agg #[.slice a n cap, .int .i64 wear, .bool bad], .agg #[.slice a' n cap', .int .i64 wear, .bool bad]] w fun e w' => e = .returned (.bool true) ∧ Below w.heap.size w w' := by
  have B0 : Below w.heap.size w ((w.alloc (.cells #[.slice a n cap, .int .i64 wear, .bool bad] 63)).alloc (.cells #[.slice a' n cap', .int .i64 wear, .bool bad] 63)) := ((Below.refl _ w).alloc (Nat.le_refl _) _).alloc (by simp) _
  have z0 := (Blk.new w 63 #[.slice a n cap, .int .i64 wear, .bool bad]).alloc (.cells #[.slice a' n cap', .int .i64 wear, .bool bad] 63)
  have z1 := Blk.new (w.alloc (.cells #[.slice a n cap, .int .i64 wear, .bool bad] 63)) 63 #[.slice a' n cap', .int .i64 wear, .bool bad]
  simp only [World.size_alloc] at z1
  have hcall := eqPageS_same a a' n cap cap' ps qs _ hn hD hs (hr.keep B0) (hr'.keep B0)
  have hu : (bad != bad) = false := by simp
  have hv : (wear != wear) = false := by simp
  have HB : Hid _ := B0
  clear hr hr' hn B0 hD hs
  go_enter Try.func105, Try.ntmps105
  go_wp2_with fail
  refine hcall.mono ?_
  rintro e w1 ⟨rfl, hb1⟩
  have k0 := z0.keep hb1
  have k1 := z1.keep hb1
  obtain ⟨q1, q2⟩ : _ ∧ _ := ⟨k0.cell 1, k0.cell 2⟩
  obtain ⟨p1, p2⟩ : _ ∧ _ := ⟨k1.cell 1, k1.cell 2⟩
  simp at q1 q2 p1 p2
  clear z0 z1 k0 k1 hcall
  go_wp2
  go_ret
  exact ⟨rfl, HB.out.trans (hb1.mono HB.out.size)⟩
set_option maxHeartbeats 3200000 in
theorem eqBlockS_same (a a' : Option Addr) (n cap cap' : Nat) (ps qs : List BkR) (w : World) (hn : ps.length = n) (hD : qs.map BkR.D = ps.map BkR.D) (hs : totB (ps.map BkR.D) ≤ 4000000) (hr : RdBs w a ps) (hr' : RdBs w a' qs) :
    Calls Try.prog 82 #[.slice a n cap, .slice a' n cap'] w fun e w' => e = .returned (.bool true) ∧ Below w.heap.size w w' := by
  have hnt : qs.length = n := by have := congrArg List.length hD; simp at this; omega
  have hl := totB_len (ps.map BkR.D)
  have hnn : n ≤ 4000000 := by simp at hl; omega
  clear hl
  by_cases h0 : n = 0
  · subst h0
    go_enter Try.func82, Try.ntmps82
    go_wp2
    refine wp_loop_rounds 1 ?_; rw [rounds_succ]
    go_wp2
    go_ret
    exact ⟨rfl, Below.refl _ _⟩
  · obtain ⟨b, off, rfl, hlt, hc⟩ := hr.lt (by intro h; subst h; simp at hn; omega)
    obtain ⟨b', off', rfl, hlt', hc'⟩ := hr'.lt (by intro h; subst h; simp at hnt; omega)
    have hn' : Hid (ps.length = n) := hn
    have HC : Hid _ := hc
    have HC' : Hid _ := hc'
    have HS : Hid _ := hs
    have HD : Hid _ := hD
    clear hr hr' hn hc hc' hs hD hnt
    go_enter Try.func82, Try.ntmps82
    go_wp2
    go_loopw [5] (fun i wr => ∃ k : Nat, k ≤ n ∧ i = .int .i64 k ∧ Below w.heap.size w wr) (fun i _ => n - (intOf i).toNat)
    case atStart => exact ⟨0, Nat.zero_le _, rfl, Below.refl _ _⟩
    case round =>
      obtain ⟨k, hk, rfl, hB⟩ := hrel
      by_cases hkn : k < n
      · have hkl : k < ps.length := by rw [hn'.out]; exact hkn
        have hki : (k : Int) < (n : Int) := by omega
        obtain ⟨r, hrk⟩ : ∃ r, ps[k]? = some r := ⟨_, List.getElem?_eq_getElem hkl⟩
        obtain ⟨t, htk, hrt⟩ := same_at HD.out hrk
        obtain ⟨x6, xr⟩ := HC.out k r hrk
        obtain ⟨y6, yr⟩ := HC'.out k t htk
        unfold BkR.D at hrt
        simp only [BkD.mk.injEq] at hrt
        obtain ⟨e1, e2, e3⟩ := hrt
        have htot := totB_at hrk
        have hs := HS.out
        have hln : t.ps.length = r.ps.length := by have := congrArg List.length e1; simpa using this
        have hcd := eqBlock_same r.a t.a r.ps.length r.cap t.cap r.wear r.bad r.ps t.ps wr.drew rfl e1 (by omega) (RdPs.keep xr hB.drew) (RdPs.keep yr hB.drew)
        obtain ⟨x0, x1, x2⟩ := x6.keep hB hlt
        obtain ⟨y0, y1, y2⟩ := y6.keep hB hlt'
        rw [e2] at y1
        rw [e3] at y2
        rw [hln] at y0
        have hwz := hB.size
        obtain ⟨n1, hn1⟩ : ∃ n, r.ps.length = n := ⟨_, rfl⟩
        rw [hn1] at x0 hcd y0
        clear x6 y6 xr yr hn1 hrk htk e1 e2 e3 hkl htot hs hln
        go_wp2
        go_region_with ((go_at_call 105; (with_reducible refine hcd.mono ?_); rintro e w1 ⟨rfl, hb1⟩))
        all_goals go_wp2
        all_goals go_roundw
        all_goals first
          | (case rel => exact ⟨k + 1, by omega, by go_num, hB.drew.trans (hb1.mono hwz)⟩)
          | (case measure => simp [intOf]; omega)
      · have hki : ¬ (k : Int) < (n : Int) := by omega
        go_wp2
        go_ret
        exact ⟨rfl, hB⟩
set_option maxHeartbeats 1600000 in
theorem eqChip_same (a a' : Option Addr) (n cap cap' : Nat) (ps qs : List BkR) (w : World) (hn : ps.length = n) (hD : qs.map BkR.D = ps.map BkR.D) (hs : totB (ps.map BkR.D) ≤ 4000000) (hr : RdBs w a ps) (hr' : RdBs w a' qs) :
    Calls Try.prog 57 #[.agg #[.slice a n cap], .agg #[.slice a' n cap']] w fun e w' => e = .returned (.bool true) ∧ Below w.heap.size w w' := by
  have B0 : Below w.heap.size w ((w.alloc (.cells #[.slice a n cap] 34)).alloc (.cells #[.slice a' n cap'] 34)) := ((Below.refl _ w).alloc (Nat.le_refl _) _).alloc (by simp) _
  have hcall := eqBlockS_same a a' n cap cap' ps qs _ hn hD hs (hr.keep B0) (hr'.keep B0)
  have HB : Hid _ := B0
  clear hr hr' hn B0 hD hs
  go_enter Try.func57, Try.ntmps57
  go_wp2_with fail
  refine hcall.mono ?_
  rintro e w1 ⟨rfl, hb1⟩
  clear hcall
  go_wp2
  go_ret
  exact ⟨rfl, HB.out.trans (hb1.mono HB.out.size)⟩
end
end Go.Proofs.Ytcocjffjhbpoeaa
