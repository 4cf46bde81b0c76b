/-
  Inodes of the laws compared: eqEnt, eqEntS, eqAttr, eqAttrS, eqInode where both are the same.
-/
import Derived.Test.YteefhgbbanpniaaJ01I
namespace Go.Proofs.Yteefhgbbanpniaa
open Go.RowKit
set_option maxHeartbeats 400000 in
theorem eqEnt_same (z : ByteArray) (x : Int) (w : World) :
    Calls Try.prog 48 #[.agg #[.string z, .int .i64 x], .agg #[.string z, .int .i64 x]] w fun e w' => e = .returned (.bool true) ∧ Below w.heap.size w w' := by
  go_enter Try.func48, Try.ntmps48
  go_wp2
  go_ret
  exact ⟨rfl, ((Below.refl _ w).alloc (Nat.le_refl _) _).alloc (by simp) _⟩
set_option maxHeartbeats 400000 in
theorem eqAttr_same (z y : ByteArray) (w : World) :
    Calls Try.prog 49 #[.agg #[.string z, .string y], .agg #[.string z, .string y]] w fun e w' => e = .returned (.bool true) ∧ Below w.heap.size w w' := by
  go_enter Try.func49, Try.ntmps49
  go_wp2
  go_ret
  exact ⟨rfl, ((Below.refl _ w).alloc (Nat.le_refl _) _).alloc (by simp) _⟩
set_option maxHeartbeats 1600000 in
theorem eqEntS_same (a a' : Option Addr) (n cap cap' : Nat) (es : List (ByteArray × Int)) (w : World) (hn : es.length = n) (hs : n ≤ 4000000) (hr : RdP w a (eP es)) (hr' : RdP w a' (eP es)) :
    Calls Try.prog 46 #[.slice a n cap, .slice a' n cap'] w fun e w' => e = .returned (.bool true) ∧ Below w.heap.size w w' := by
  by_cases h0 : n = 0
  · subst h0
    go_enter Try.func46, Try.ntmps46
    go_wp2
    refine wp_loop_rounds 1 ?_; rw [rounds_succ]
    go_wp2
    go_ret
    exact ⟨rfl, Below.refl _ _⟩
  · have hne : eP es ≠ [] := by intro h; have := congrArg List.length h; rw [eP_length] at this; simp at this; subst this; simp at hn; omega
    obtain ⟨b, off, rfl, hlt, hc⟩ := hr.lt hne
    obtain ⟨b', off', rfl, hlt', hc'⟩ := hr'.lt hne
    clear hr hr' hne
    have hn' : Hid (es.length = n) := hn
    clear hn
    go_enter Try.func46, Try.ntmps46
    go_wp2
    go_loopw [5] (fun i wr => ∃ k : Nat, k ≤ n ∧ i = .int .i64 k ∧ Below w.heap.size w wr) (fun i _ => n - (intOf i).toNat)
    case atStart => exact ⟨0, Nat.zero_le _, rfl, Below.refl _ _⟩
    case round =>
      obtain ⟨k, hk, rfl, hB⟩ := hrel
      by_cases hkn : k < n
      · have hkl : k < es.length := by rw [hn'.out]; exact hkn
        have hki : (k : Int) < (n : Int) := by omega
        have hx := hc k (by rw [eP_length]; exact hkl)
        have hy := hc' k (by rw [eP_length]; exact hkl)
        rw [eP_at es k hkl] at hx hy
        obtain ⟨z, hz⟩ : ∃ z, es[k].1 = z := ⟨_, rfl⟩
        obtain ⟨y, hyy⟩ : ∃ y, es[k].2 = y := ⟨_, rfl⟩
        rw [hz, hyy] at hx hy
        have x1 : wr.cell? ⟨b, off + k * 2, none⟩ = _ := (hB.cell (by exact hlt)).trans hx.1
        have x2 : wr.cell? ⟨b, off + k * 2 + 1, none⟩ = _ := (hB.cell (by exact hlt)).trans hx.2
        have y1 : wr.cell? ⟨b', off' + k * 2, none⟩ = _ := (hB.cell (by exact hlt')).trans hy.1
        have y2 : wr.cell? ⟨b', off' + k * 2 + 1, none⟩ = _ := (hB.cell (by exact hlt')).trans hy.2
        dsimp only at x1 x2 y1 y2
        have hwz := hB.size
        clear hx hy hz hyy hkl
        go_wp2
        go_region_with (go_at_call 48; refine (eqEnt_same z y _).mono ?_; rintro e w1 ⟨rfl, hb1⟩)
        all_goals go_wp2
        all_goals go_roundw
        all_goals first
          | (case rel => exact ⟨k + 1, by omega, by go_num, hB.drew.trans (hb1.mono hwz)⟩)
          | (case measure => simp [intOf]; omega)
      · have hki : ¬ (k : Int) < (n : Int) := by omega
        go_wp2
        go_ret
        exact ⟨rfl, hB⟩
set_option maxHeartbeats 1600000 in
theorem eqAttrS_same (a a' : Option Addr) (n cap cap' : Nat) (es : List (ByteArray × ByteArray)) (w : World) (hn : es.length = n) (hs : n ≤ 4000000) (hr : RdP w a (aP es)) (hr' : RdP w a' (aP es)) :
    Calls Try.prog 47 #[.slice a n cap, .slice a' n cap'] w fun e w' => e = .returned (.bool true) ∧ Below w.heap.size w w' := by
  by_cases h0 : n = 0
  · subst h0
    go_enter Try.func47, Try.ntmps47
    go_wp2
    refine wp_loop_rounds 1 ?_; rw [rounds_succ]
    go_wp2
    go_ret
    exact ⟨rfl, Below.refl _ _⟩
  · have hne : aP es ≠ [] := by intro h; have := congrArg List.length h; rw [aP_length] at this; simp at this; subst this; simp at hn; omega
    obtain ⟨b, off, rfl, hlt, hc⟩ := hr.lt hne
    obtain ⟨b', off', rfl, hlt', hc'⟩ := hr'.lt hne
    clear hr hr' hne
    have hn' : Hid (es.length = n) := hn
    clear hn
    go_enter Try.func47, Try.ntmps47
    go_wp2
    go_loopw [5] (fun i wr => ∃ k : Nat, k ≤ n ∧ i = .int .i64 k ∧ Below w.heap.size w wr) (fun i _ => n - (intOf i).toNat)
    case atStart => exact ⟨0, Nat.zero_le _, rfl, Below.refl _ _⟩
    case round =>
      obtain ⟨k, hk, rfl, hB⟩ := hrel
      by_cases hkn : k < n
      · have hkl : k < es.length := by rw [hn'.out]; exact hkn
        have hki : (k : Int) < (n : Int) := by omega
        have hx := hc k (by rw [aP_length]; exact hkl)
        have hy := hc' k (by rw [aP_length]; exact hkl)
        rw [aP_at es k hkl] at hx hy
        obtain ⟨z, hz⟩ : ∃ z, es[k].1 = z := ⟨_, rfl⟩
        obtain ⟨y, hyy⟩ : ∃ y, es[k].2 = y := ⟨_, rfl⟩
        rw [hz, hyy] at hx hy
        have x1 : wr.cell? ⟨b, off + k * 2, none⟩ = _ := (hB.cell (by exact hlt)).trans hx.1
        have x2 : wr.cell? ⟨b, off + k * 2 + 1, none⟩ = _ := (hB.cell (by exact hlt)).trans hx.2
        have y1 : wr.cell? ⟨b', off' + k * 2, none⟩ = _ := (hB.cell (by exact hlt')).trans hy.1
        have y2 : wr.cell? ⟨b', off' + k * 2 + 1, none⟩ = _ := (hB.cell (by exact hlt')).trans hy.2
        dsimp only at x1 x2 y1 y2
        have hwz := hB.size
        clear hx hy hz hyy hkl
        go_wp2
        go_region_with (go_at_call 49; refine (eqAttr_same z y _).mono ?_; rintro e w1 ⟨rfl, hb1⟩)
        all_goals go_wp2
        all_goals go_roundw
        all_goals first
          | (case rel => exact ⟨k + 1, by omega, by go_num, hB.drew.trans (hb1.mono hwz)⟩)
          | (case measure => simp [intOf]; omega)
      · have hki : ¬ (k : Int) < (n : Int) := by omega
        go_wp2
        go_ret
        exact ⟨rfl, hB⟩
set_option maxHeartbeats 1600000 in
theorem eqInode_same (D : InoD) (a1 a2 a3 b1 b2 b3 : Option Addr) (ac1 ac2 ac3 bc1 bc2 bc3 : Nat) (w : World) (h1 : D.data.length ≤ 1048576) (h2 : D.ents.length ≤ 1048576) (h3 : D.attrs.length ≤ 1048576) (hr : InoRd w D a1 a2 a3) (hr' : InoRd w D b1 b2 b3) :
    Calls Try.prog 44 #[inoV D a1 ac1 a2 ac2 a3 ac3, inoV D b1 bc1 b2 bc2 b3 bc3] w fun e w' => e = .returned (.bool true) ∧ Below w.heap.size w w' := by
  obtain ⟨ino, kind, links, data, ents, attrs⟩ := D
  obtain ⟨n1, hn1⟩ : ∃ n, data.length = n := ⟨_, rfl⟩
  obtain ⟨n2, hn2⟩ : ∃ n, ents.length = n := ⟨_, rfl⟩
  obtain ⟨n3, hn3⟩ : ∃ n, attrs.length = n := ⟨_, rfl⟩
  dsimp only at h1 h2 h3
  unfold inoV
  dsimp only
  rw [hn1] at h1
  rw [hn2] at h2
  rw [hn3] at h3
  simp only [hn1, hn2, hn3]
  have k1 : Hid (data.length = n1) := hn1
  have k2 : Hid (ents.length = n2) := hn2
  have k3 : Hid (attrs.length = n3) := hn3
  clear hn1 hn2 hn3
  obtain ⟨r1, r2, r3, r4⟩ := hr
  obtain ⟨s1, s2, s3, s4⟩ := hr'
  dsimp only at r1 r2 r3 r4 s1 s3 s4
  go_enter Try.func44, Try.ntmps44
  go_wp2_with fail
  have z0 := (Blk.new w 71 #[.int .i64 ino, .int .i64 kind, .int .i64 links, .slice a1 n1 ac1, .slice a2 n2 ac2, .slice a3 n3 ac3]).alloc (.cells #[.int .i64 ino, .int .i64 kind, .int .i64 links, .slice b1 n1 bc1, .slice b2 n2 bc2, .slice b3 n3 bc3] 71)
  have z1 := Blk.new (w.alloc (.cells #[.int .i64 ino, .int .i64 kind, .int .i64 links, .slice a1 n1 ac1, .slice a2 n2 ac2, .slice a3 n3 ac3] 71)) 71 #[.int .i64 ino, .int .i64 kind, .int .i64 links, .slice b1 n1 bc1, .slice b2 n2 bc2, .slice b3 n3 bc3]
  simp only [World.size_alloc] at z1
  have B0 : Below w.heap.size w ((w.alloc (.cells #[.int .i64 ino, .int .i64 kind, .int .i64 links, .slice a1 n1 ac1, .slice a2 n2 ac2, .slice a3 n3 ac3] 71)).alloc (.cells #[.int .i64 ino, .int .i64 kind, .int .i64 links, .slice b1 n1 bc1, .slice b2 n2 bc2, .slice b3 n3 bc3] 71)) := ((Below.refl _ w).alloc (Nat.le_refl _) _).alloc (by simp) _
  obtain ⟨W0, hW0⟩ : ∃ W0, ((w.alloc (.cells #[.int .i64 ino, .int .i64 kind, .int .i64 links, .slice a1 n1 ac1, .slice a2 n2 ac2, .slice a3 n3 ac3] 71)).alloc (.cells #[.int .i64 ino, .int .i64 kind, .int .i64 links, .slice b1 n1 bc1, .slice b2 n2 bc2, .slice b3 n3 bc3] 71)) = W0 := ⟨_, rfl⟩
  rw [hW0] at z0 z1 B0 ⊢
  clear hW0
  refine (eqByteS_true a1 b1 n1 ac1 bc1 data W0 k1.out (by omega) (r1.keep B0) (s1.keep B0)).mono ?_
  rintro e w1 ⟨rfl, t1⟩
  have B1 := B0.trans (t1.mono B0.size)
  have y0 := z0.keep t1
  have y1 := z1.keep t1
  have c0 := y0.cell 4
  have c1 := y1.cell 4
  simp at c0 c1
  go_wp2_with fail
  refine (eqEntS_same a2 b2 n2 ac2 bc2 ents w1 k2.out (by omega) (r3.keep B1) (s3.keep B1)).mono ?_
  rintro e w2 ⟨rfl, t2⟩
  have B2 := B1.trans (t2.mono B1.size)
  have x0 := (y0.keep t2).cell 5
  have x1 := (y1.keep t2).cell 5
  simp at x0 x1
  clear c0 c1
  go_wp2_with fail
  refine (eqAttrS_same a3 b3 n3 ac3 bc3 attrs w2 k3.out (by omega) (r4.keep B2) (s4.keep B2)).mono ?_
  rintro e w3 ⟨rfl, t3⟩
  have B3 := B2.trans (t3.mono B2.size)
  go_wp2
  go_ret
  exact ⟨rfl, B3⟩
end Go.Proofs.Yteefhgbbanpniaa

