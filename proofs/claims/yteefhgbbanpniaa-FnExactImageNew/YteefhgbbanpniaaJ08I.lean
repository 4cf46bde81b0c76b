/-
  Joined: FsN, ImN.
-/
import Derived.Test.YteefhgbbanpniaaJ07I
namespace Go.Proofs.Yteefhgbbanpniaa
section
open Go.RowKit
theorem markVolS_nil (w : World) : Calls Try.prog 23 #[.slice none 0 0, .int .i64 1] w fun e w' => e = .returned (.int .i64 1) ∧ Below w.heap.size w w' := by
  go_enter Try.func23, Try.ntmps23
  go_wp2
  refine wp_loop_rounds 1 ?_; rw [rounds_succ]
  go_wp2
  go_ret
  exact ⟨rfl, Below.refl _ _⟩
theorem heldVolS_nil (w : World) : Calls Try.prog 26 #[.slice none 0 0, .int .i64 1] w fun e w' => e = .returned (.int .i64 1) ∧ Below w.heap.size w w' := by
  go_enter Try.func26, Try.ntmps26
  go_wp2
  refine wp_loop_rounds 1 ?_; rw [rounds_succ]
  go_wp2
  go_ret
  exact ⟨rfl, Below.refl _ _⟩
theorem markFs_nil (nx : Int) (w : World) : Calls Try.prog 14 #[.agg #[.slice none 0 0, .int .i64 nx], .int .i64 1] w fun e w' => e = .returned (.int .i64 1) ∧ Below w.heap.size w w' := by
  have B0 : Below w.heap.size w (w.alloc (.cells #[.slice none 0 0, .int .i64 nx] 24)) := (Below.refl _ w).alloc (Nat.le_refl _) _
  have hc := markVolS_nil (w.alloc (.cells #[.slice none 0 0, .int .i64 nx] 24))
  have HB : Hid _ := B0
  clear B0
  go_enter Try.func14, Try.ntmps14
  go_wp2_with fail
  (with_reducible refine hc.mono ?_)
  rintro e w1 ⟨rfl, b1⟩
  go_wp2
  go_ret
  exact ⟨rfl, HB.out.trans (b1.mono HB.out.size)⟩
theorem heldFs_nil (nx : Int) (w : World) : Calls Try.prog 17 #[.agg #[.slice none 0 0, .int .i64 nx], .int .i64 1] w fun e w' => e = .returned (.int .i64 1) ∧ Below w.heap.size w w' := by
  have B0 : Below w.heap.size w (w.alloc (.cells #[.slice none 0 0, .int .i64 nx] 24)) := (Below.refl _ w).alloc (Nat.le_refl _) _
  have hc := heldVolS_nil (w.alloc (.cells #[.slice none 0 0, .int .i64 nx] 24))
  have HB : Hid _ := B0
  clear B0
  go_enter Try.func17, Try.ntmps17
  go_wp2_with fail
  (with_reducible refine hc.mono ?_)
  rintro e w1 ⟨rfl, b1⟩
  go_wp2
  go_ret
  exact ⟨rfl, HB.out.trans (b1.mono HB.out.size)⟩
theorem fsNewS (w : World) : Calls Try.prog 9 #[] w fun e w' => e = .returned (.agg #[.slice none 0 0, .int .i64 1]) ∧ Below w.heap.size w w' := by
  have HB : Hid (Below w.heap.size w (w.alloc (.cells #[.slice none 0 0, .int .i64 1] 24))) := (Below.refl _ w).alloc (Nat.le_refl _) _
  have z0 := Blk.new w 24 #[.slice none 0 0, .int .i64 1]
  have d0 := z0.cell 0
  have d1 := z0.cell 1
  simp at d0 d1
  clear z0
  go_enter Try.func9, Try.ntmps9
  go_wp2
  refine bodyPost_ret (v := .agg #[.slice none 0 0, .int .i64 1]) (by simp [results, Try.f9, go_sem]) rfl ?_
  exact ⟨rfl, HB.out⟩
theorem fsNewI (w : World) : Calls Try.prog 10 #[] w fun e w' => e = .returned (.agg #[.slice none 0 0, .int .i64 1]) ∧ Below w.heap.size w w' := by
  have HB : Hid (Below w.heap.size w (w.alloc (.cells #[.slice none 0 0, .int .i64 1] 24))) := (Below.refl _ w).alloc (Nat.le_refl _) _
  have z0 := Blk.new w 24 #[.slice none 0 0, .int .i64 1]
  have d0 := z0.cell 0
  have d1 := z0.cell 1
  simp at d0 d1
  clear z0
  go_enter Try.func10, Try.ntmps10
  go_wp2
  refine bodyPost_ret (v := .agg #[.slice none 0 0, .int .i64 1]) (by simp [results, Try.f10, go_sem]) rfl ?_
  exact ⟨rfl, HB.out⟩
theorem eqFs_nil (nx : Int) (w : World) : Calls Try.prog 11 #[.agg #[.slice none 0 0, .int .i64 nx], .agg #[.slice none 0 0, .int .i64 nx]] w fun e w' => e = .returned (.bool true) ∧ Below w.heap.size w w' :=
  eqFs_same none none 0 0 0 nx [] [] w rfl (by omega) rfl (fun _ h => (List.not_mem_nil h).elim) (.inl rfl) (.inl rfl)
end

section
open Go.RowKit
theorem eqRowS_nil (w : World) : Calls Try.prog 21 #[.slice none 0 0, .slice none 0 0] w fun e w' => e = .returned (.bool true) ∧ Below w.heap.size w w' := by
  go_enter Try.func21, Try.ntmps21
  go_wp2
  refine wp_loop_rounds 1 ?_; rw [rounds_succ]
  go_wp2
  go_ret
  exact ⟨rfl, Below.refl _ _⟩
theorem markRowS_nil (w : World) : Calls Try.prog 24 #[.slice none 0 0, .int .i64 1] w fun e w' => e = .returned (.int .i64 1) ∧ Below w.heap.size w w' := by
  go_enter Try.func24, Try.ntmps24
  go_wp2
  refine wp_loop_rounds 1 ?_; rw [rounds_succ]
  go_wp2
  go_ret
  exact ⟨rfl, Below.refl _ _⟩
theorem heldRowS_nil (w : World) : Calls Try.prog 27 #[.slice none 0 0, .int .i64 1] w fun e w' => e = .returned (.int .i64 1) ∧ Below w.heap.size w w' := by
  go_enter Try.func27, Try.ntmps27
  go_wp2
  refine wp_loop_rounds 1 ?_; rw [rounds_succ]
  go_wp2
  go_ret
  exact ⟨rfl, Below.refl _ _⟩
theorem eqMapS_nil (w : World) : Calls Try.prog 13 #[.slice none 0 0, .slice none 0 0] w fun e w' => e = .returned (.bool true) ∧ Below w.heap.size w w' := by
  go_enter Try.func13, Try.ntmps13
  go_wp2
  refine wp_loop_rounds 1 ?_; rw [rounds_succ]
  go_wp2
  go_ret
  exact ⟨rfl, Below.refl _ _⟩
theorem markMapS_nil (w : World) : Calls Try.prog 16 #[.slice none 0 0, .int .i64 1] w fun e w' => e = .returned (.int .i64 1) ∧ Below w.heap.size w w' := by
  go_enter Try.func16, Try.ntmps16
  go_wp2
  refine wp_loop_rounds 1 ?_; rw [rounds_succ]
  go_wp2
  go_ret
  exact ⟨rfl, Below.refl _ _⟩
theorem heldMapS_nil (w : World) : Calls Try.prog 19 #[.slice none 0 0, .int .i64 1] w fun e w' => e = .returned (.int .i64 1) ∧ Below w.heap.size w w' := by
  go_enter Try.func19, Try.ntmps19
  go_wp2
  refine wp_loop_rounds 1 ?_; rw [rounds_succ]
  go_wp2
  go_ret
  exact ⟨rfl, Below.refl _ _⟩
theorem eqTable_nil (w : World) : Calls Try.prog 12 #[.agg #[.int .i64 1, .slice none 0 0], .agg #[.int .i64 1, .slice none 0 0]] w fun e w' => e = .returned (.bool true) ∧ Below w.heap.size w w' := by
  have B0 : Below w.heap.size w ((w.alloc (.cells #[.int .i64 1, .slice none 0 0] 27)).alloc (.cells #[.int .i64 1, .slice none 0 0] 27)) := ((Below.refl _ w).alloc (Nat.le_refl _) _).alloc (by simp) _
  have hc := eqRowS_nil ((w.alloc (.cells #[.int .i64 1, .slice none 0 0] 27)).alloc (.cells #[.int .i64 1, .slice none 0 0] 27))
  have HB : Hid _ := B0
  clear B0
  go_enter Try.func12, Try.ntmps12
  go_wp2_with fail
  (with_reducible refine hc.mono ?_)
  rintro e w1 ⟨rfl, b1⟩
  go_wp2
  go_ret
  exact ⟨rfl, HB.out.trans (b1.mono HB.out.size)⟩
theorem markTable_nil (w : World) : Calls Try.prog 15 #[.agg #[.int .i64 1, .slice none 0 0], .int .i64 1] w fun e w' => e = .returned (.int .i64 1) ∧ Below w.heap.size w w' := by
  have B0 : Below w.heap.size w (w.alloc (.cells #[.int .i64 1, .slice none 0 0] 27)) := (Below.refl _ w).alloc (Nat.le_refl _) _
  have hc := markRowS_nil (w.alloc (.cells #[.int .i64 1, .slice none 0 0] 27))
  have HB : Hid _ := B0
  clear B0
  go_enter Try.func15, Try.ntmps15
  go_wp2_with fail
  (with_reducible refine hc.mono ?_)
  rintro e w1 ⟨rfl, b1⟩
  go_wp2
  go_ret
  exact ⟨rfl, HB.out.trans (b1.mono HB.out.size)⟩
theorem heldTable_nil (w : World) : Calls Try.prog 18 #[.agg #[.int .i64 1, .slice none 0 0], .int .i64 1] w fun e w' => e = .returned (.int .i64 1) ∧ Below w.heap.size w w' := by
  have B0 : Below w.heap.size w (w.alloc (.cells #[.int .i64 1, .slice none 0 0] 27)) := (Below.refl _ w).alloc (Nat.le_refl _) _
  have hc := heldRowS_nil (w.alloc (.cells #[.int .i64 1, .slice none 0 0] 27))
  have HB : Hid _ := B0
  clear B0
  go_enter Try.func18, Try.ntmps18
  go_wp2_with fail
  (with_reducible refine hc.mono ?_)
  rintro e w1 ⟨rfl, b1⟩
  go_wp2
  go_ret
  exact ⟨rfl, HB.out.trans (b1.mono HB.out.size)⟩
theorem Blk.img {W : World} {H : Nat} {t : TypeId} {v0 v1 v2 v3 v4 v5 v6 : Value} (h : Blk W H t #[v0, v1, v2, v3, v4, v5, v6]) : W.cell? ⟨H, 0, none⟩ = some v0 ∧ W.cell? ⟨H, 1, none⟩ = some v1 ∧ W.cell? ⟨H, 2, none⟩ = some v2 ∧ W.cell? ⟨H, 3, none⟩ = some v3 ∧ W.cell? ⟨H, 4, none⟩ = some v4 ∧ W.cell? ⟨H, 5, none⟩ = some v5 ∧ W.cell? ⟨H, 6, none⟩ = some v6 := ⟨h.cell 0, h.cell 1, h.cell 2, h.cell 3, h.cell 4, h.cell 5, h.cell 6⟩
set_option maxHeartbeats 1600000 in
theorem eqImage_nil (w : World) : Calls Try.prog 6 #[.agg #[.slice none 0 0, .int .i64 1, .int .i64 1, .slice none 0 0, .slice none 0 0, .int .i64 (-1), .int .i64 (-1)], .agg #[.slice none 0 0, .int .i64 1, .int .i64 1, .slice none 0 0, .slice none 0 0, .int .i64 (-1), .int .i64 (-1)]] w fun e w' => e = .returned (.bool true) ∧ Below w.heap.size w w' := by
  have B0 : Below w.heap.size w ((w.alloc (.cells #[.slice none 0 0, .int .i64 1, .int .i64 1, .slice none 0 0, .slice none 0 0, .int .i64 (-1), .int .i64 (-1)] 30)).alloc (.cells #[.slice none 0 0, .int .i64 1, .int .i64 1, .slice none 0 0, .slice none 0 0, .int .i64 (-1), .int .i64 (-1)] 30)) := ((Below.refl _ w).alloc (Nat.le_refl _) _).alloc (by simp) _
  have z0 := (Blk.new w 30 #[.slice none 0 0, .int .i64 1, .int .i64 1, .slice none 0 0, .slice none 0 0, .int .i64 (-1), .int .i64 (-1)]).alloc (.cells #[.slice none 0 0, .int .i64 1, .int .i64 1, .slice none 0 0, .slice none 0 0, .int .i64 (-1), .int .i64 (-1)] 30)
  have z1 := Blk.new (w.alloc (.cells #[.slice none 0 0, .int .i64 1, .int .i64 1, .slice none 0 0, .slice none 0 0, .int .i64 (-1), .int .i64 (-1)] 30)) 30 #[.slice none 0 0, .int .i64 1, .int .i64 1, .slice none 0 0, .slice none 0 0, .int .i64 (-1), .int .i64 (-1)]
  simp only [World.size_alloc] at z1
  obtain ⟨H, hH⟩ : ∃ H, w.heap.size = H := ⟨_, rfl⟩
  have HH : Hid _ := hH
  rw [hH] at z0 z1
  go_enter Try.func6, Try.ntmps6
  obtain ⟨q0, q1, q2, q3, q4, q5, q6⟩ := z0.img
  obtain ⟨p0, p1, p2, p3, p4, p5, p6⟩ := z1.img
  go_wp2_with fail
  (with_reducible refine (eqFs_nil 1 _).mono ?_)
  rintro e w1 ⟨rfl, b1⟩
  have B1 := B0.trans (b1.mono B0.size)
  have z0' := z0.keep b1
  have z1' := z1.keep b1
  clear z0 z1 q0 q1 q2 q3 q4 q5 q6 p0 p1 p2 p3 p4 p5 p6 b1 B0
  obtain ⟨q0, q1, q2, q3, q4, q5, q6⟩ := z0'.img
  obtain ⟨p0, p1, p2, p3, p4, p5, p6⟩ := z1'.img
  go_wp2_with fail
  (with_reducible refine (eqTable_nil _).mono ?_)
  rintro e w2 ⟨rfl, b2⟩
  have B2 := B1.trans (b2.mono B1.size)
  have z0 := z0'.keep b2
  have z1 := z1'.keep b2
  clear z0' z1' q0 q1 q2 q3 q4 q5 q6 p0 p1 p2 p3 p4 p5 p6 b2 B1
  obtain ⟨q0, q1, q2, q3, q4, q5, q6⟩ := z0.img
  obtain ⟨p0, p1, p2, p3, p4, p5, p6⟩ := z1.img
  go_wp2_with fail
  (with_reducible refine (eqMapS_nil _).mono ?_)
  rintro e w3 ⟨rfl, b3⟩
  have B3 := B2.trans (b3.mono B2.size)
  have z0' := z0.keep b3
  have z1' := z1.keep b3
  clear z0 z1 q0 q1 q2 q3 q4 q5 q6 p0 p1 p2 p3 p4 p5 p6 b3 B2
  obtain ⟨q0, q1, q2, q3, q4, q5, q6⟩ := z0'.img
  obtain ⟨p0, p1, p2, p3, p4, p5, p6⟩ := z1'.img
  go_wp2
  go_ret
  exact ⟨rfl, B3⟩
set_option maxHeartbeats 1600000 in
theorem markImage_nil (w : World) : Calls Try.prog 7 #[.agg #[.slice none 0 0, .int .i64 1, .int .i64 1, .slice none 0 0, .slice none 0 0, .int .i64 (-1), .int .i64 (-1)], .int .i64 1] w fun e w' => e = .returned (.int .i64 1) ∧ Below w.heap.size w w' := by
  have B0 : Below w.heap.size w (w.alloc (.cells #[.slice none 0 0, .int .i64 1, .int .i64 1, .slice none 0 0, .slice none 0 0, .int .i64 (-1), .int .i64 (-1)] 30)) := (Below.refl _ w).alloc (Nat.le_refl _) _
  have z0 := Blk.new w 30 #[.slice none 0 0, .int .i64 1, .int .i64 1, .slice none 0 0, .slice none 0 0, .int .i64 (-1), .int .i64 (-1)]
  obtain ⟨H, hH⟩ : ∃ H, w.heap.size = H := ⟨_, rfl⟩
  have HH : Hid _ := hH
  rw [hH] at z0
  go_enter Try.func7, Try.ntmps7
  obtain ⟨q0, q1, q2, q3, q4, q5, q6⟩ := z0.img
  go_wp2_with fail
  (with_reducible refine (markFs_nil 1 _).mono ?_)
  rintro e w1 ⟨rfl, b1⟩
  have B1 := B0.trans (b1.mono B0.size)
  have z1 := z0.keep b1
  clear z0 q0 q1 q2 q3 q4 q5 q6 b1 B0
  obtain ⟨q0, q1, q2, q3, q4, q5, q6⟩ := z1.img
  go_wp2_with fail
  (with_reducible refine (markTable_nil _).mono ?_)
  rintro e w2 ⟨rfl, b2⟩
  have B2 := B1.trans (b2.mono B1.size)
  have z2 := z1.keep b2
  clear z1 q0 q1 q2 q3 q4 q5 q6 b2 B1
  obtain ⟨q0, q1, q2, q3, q4, q5, q6⟩ := z2.img
  go_wp2_with fail
  (with_reducible refine (markMapS_nil _).mono ?_)
  rintro e w3 ⟨rfl, b3⟩
  have B3 := B2.trans (b3.mono B2.size)
  clear z2 q0 q1 q2 q3 q4 q5 q6 b3 B2
  go_wp2
  go_ret
  exact ⟨rfl, B3⟩
set_option maxHeartbeats 1600000 in
theorem heldImage_nil (w : World) : Calls Try.prog 8 #[.agg #[.slice none 0 0, .int .i64 1, .int .i64 1, .slice none 0 0, .slice none 0 0, .int .i64 (-1), .int .i64 (-1)], .int .i64 1] w fun e w' => e = .returned (.int .i64 1) ∧ Below w.heap.size w w' := by
  have B0 : Below w.heap.size w (w.alloc (.cells #[.slice none 0 0, .int .i64 1, .int .i64 1, .slice none 0 0, .slice none 0 0, .int .i64 (-1), .int .i64 (-1)] 30)) := (Below.refl _ w).alloc (Nat.le_refl _) _
  have z0 := Blk.new w 30 #[.slice none 0 0, .int .i64 1, .int .i64 1, .slice none 0 0, .slice none 0 0, .int .i64 (-1), .int .i64 (-1)]
  obtain ⟨H, hH⟩ : ∃ H, w.heap.size = H := ⟨_, rfl⟩
  have HH : Hid _ := hH
  rw [hH] at z0
  go_enter Try.func8, Try.ntmps8
  obtain ⟨q0, q1, q2, q3, q4, q5, q6⟩ := z0.img
  go_wp2_with fail
  (with_reducible refine (heldFs_nil 1 _).mono ?_)
  rintro e w1 ⟨rfl, b1⟩
  have B1 := B0.trans (b1.mono B0.size)
  have z1 := z0.keep b1
  clear z0 q0 q1 q2 q3 q4 q5 q6 b1 B0
  obtain ⟨q0, q1, q2, q3, q4, q5, q6⟩ := z1.img
  go_wp2_with fail
  (with_reducible refine (heldTable_nil _).mono ?_)
  rintro e w2 ⟨rfl, b2⟩
  have B2 := B1.trans (b2.mono B1.size)
  have z2 := z1.keep b2
  clear z1 q0 q1 q2 q3 q4 q5 q6 b2 B1
  obtain ⟨q0, q1, q2, q3, q4, q5, q6⟩ := z2.img
  go_wp2_with fail
  (with_reducible refine (heldMapS_nil _).mono ?_)
  rintro e w3 ⟨rfl, b3⟩
  have B3 := B2.trans (b3.mono B2.size)
  clear z2 q0 q1 q2 q3 q4 q5 q6 b3 B2
  go_wp2
  go_ret
  exact ⟨rfl, B3⟩
set_option maxHeartbeats 1600000 in
theorem imageNewS (w : World) : Calls Try.prog 4 #[] w fun e w' => e = .returned (.agg #[.slice none 0 0, .int .i64 1, .int .i64 1, .slice none 0 0, .slice none 0 0, .int .i64 (-1), .int .i64 (-1)]) ∧ Below w.heap.size w w' := by
  have B0 : Below w.heap.size w (w.alloc (.cells #[.slice none 0 0, .int .i64 0, .int .i64 0, .slice none 0 0, .slice none 0 0, .int .i64 0, .int .i64 0] 30)) := (Below.refl _ w).alloc (Nat.le_refl _) _
  have z0 := Blk.new w 30 #[.slice none 0 0, .int .i64 0, .int .i64 0, .slice none 0 0, .slice none 0 0, .int .i64 0, .int .i64 0]
  obtain ⟨H, hH⟩ : ∃ H, w.heap.size = H := ⟨_, rfl⟩
  have HH : Hid _ := hH
  rw [hH] at z0
  go_enter Try.func4, Try.ntmps4
  go_wp2_with fail
  (with_reducible refine (fsNewS _).mono ?_)
  rintro e w1 ⟨rfl, b1⟩
  have B1 := B0.trans (b1.mono B0.size)
  have z1 := z0.keep b1
  clear z0 b1 B0
  obtain ⟨q0, q1, q2, q3, q4, q5, q6⟩ := z1.img
  have f0 := z1.frozen 0
  have f1 := z1.frozen 1
  have f2 := z1.frozen 2
  have f3 := z1.frozen 3
  have f4 := z1.frozen 4
  have f5 := z1.frozen 5
  have f6 := z1.frozen 6
  have zf := ((((((z1.set 0 (.slice none 0 0)).set 1 (.int .i64 1)).set 2 (.int .i64 1)).set 3 (.slice none 0 0)).set 4 (.slice none 0 0)).set 5 (.int .i64 (-1))).set 6 (.int .i64 (-1))
  simp at zf
  obtain ⟨d0, d1, d2, d3, d4, d5, d6⟩ := zf.img
  have hw : w.heap.size ≤ H := by omega
  have BF : Hid _ := ((((((B1.setCell (p := ⟨H, 0, none⟩) hw (.slice none 0 0)).setCell (p := ⟨H, 1, none⟩) hw (.int .i64 1)).setCell (p := ⟨H, 2, none⟩) hw (.int .i64 1)).setCell (p := ⟨H, 3, none⟩) hw (.slice none 0 0)).setCell (p := ⟨H, 4, none⟩) hw (.slice none 0 0)).setCell (p := ⟨H, 5, none⟩) hw (.int .i64 (-1))).setCell (p := ⟨H, 6, none⟩) hw (.int .i64 (-1))
  clear z1 zf B1
  go_wp2
  refine bodyPost_ret (v := .agg #[.slice none 0 0, .int .i64 1, .int .i64 1, .slice none 0 0, .slice none 0 0, .int .i64 (-1), .int .i64 (-1)]) (by simp [results, Try.f4, go_sem, d0, d1, d2, d3, d4, d5, d6]) rfl ?_
  exact ⟨rfl, BF.out⟩
set_option maxHeartbeats 1600000 in
theorem imageNewI (w : World) : Calls Try.prog 5 #[] w fun e w' => e = .returned (.agg #[.slice none 0 0, .int .i64 1, .int .i64 1, .slice none 0 0, .slice none 0 0, .int .i64 (-1), .int .i64 (-1)]) ∧ Below w.heap.size w w' := by
  have B0 : Below w.heap.size w (w.alloc (.cells #[.slice none 0 0, .int .i64 0, .int .i64 0, .slice none 0 0, .slice none 0 0, .int .i64 0, .int .i64 0] 30)) := (Below.refl _ w).alloc (Nat.le_refl _) _
  have z0 := Blk.new w 30 #[.slice none 0 0, .int .i64 0, .int .i64 0, .slice none 0 0, .slice none 0 0, .int .i64 0, .int .i64 0]
  obtain ⟨H, hH⟩ : ∃ H, w.heap.size = H := ⟨_, rfl⟩
  have HH : Hid _ := hH
  rw [hH] at z0
  go_enter Try.func5, Try.ntmps5
  go_wp2_with fail
  (with_reducible refine (fsNewI _).mono ?_)
  rintro e w1 ⟨rfl, b1⟩
  have B1 := B0.trans (b1.mono B0.size)
  have z1 := z0.keep b1
  clear z0 b1 B0
  obtain ⟨q0, q1, q2, q3, q4, q5, q6⟩ := z1.img
  have f0 := z1.frozen 0
  have f1 := z1.frozen 1
  have f2 := z1.frozen 2
  have f3 := z1.frozen 3
  have f4 := z1.frozen 4
  have f5 := z1.frozen 5
  have f6 := z1.frozen 6
  have zf := ((((((z1.set 0 (.slice none 0 0)).set 1 (.int .i64 1)).set 2 (.int .i64 1)).set 3 (.slice none 0 0)).set 4 (.slice none 0 0)).set 5 (.int .i64 (-1))).set 6 (.int .i64 (-1))
  simp at zf
  obtain ⟨d0, d1, d2, d3, d4, d5, d6⟩ := zf.img
  have hw : w.heap.size ≤ H := by omega
  have BF : Hid _ := ((((((B1.setCell (p := ⟨H, 0, none⟩) hw (.slice none 0 0)).setCell (p := ⟨H, 1, none⟩) hw (.int .i64 1)).setCell (p := ⟨H, 2, none⟩) hw (.int .i64 1)).setCell (p := ⟨H, 3, none⟩) hw (.slice none 0 0)).setCell (p := ⟨H, 4, none⟩) hw (.slice none 0 0)).setCell (p := ⟨H, 5, none⟩) hw (.int .i64 (-1))).setCell (p := ⟨H, 6, none⟩) hw (.int .i64 (-1))
  clear z1 zf B1
  go_wp2
  refine bodyPost_ret (v := .agg #[.slice none 0 0, .int .i64 1, .int .i64 1, .slice none 0 0, .slice none 0 0, .int .i64 (-1), .int .i64 (-1)]) (by simp [results, Try.f5, go_sem, d0, d1, d2, d3, d4, d5, d6]) rfl ?_
  exact ⟨rfl, BF.out⟩
end
end Go.Proofs.Yteefhgbbanpniaa
