/-
  What the program's InodeOk answers.
-/
import Derived.Test.YtnadeelnjhollaaGreatPairsIV
namespace Go.Proofs.YtnadeelnjhollaaGreat
open Go.RowKit
def linkR (D : InoD) : Bool := if D.ino = 1 then decide (D.links = 0) else (decide (1 ≤ D.links) && decide (D.links ≤ 1000))
def kindI (D : InoD) : Bool := (decide (D.kind = 1) && (decide (D.data.length ≤ 100) && decide (D.ents.length = 0))) || (decide (D.kind = 2) && (decide (D.data.length = 0) && decide (D.links ≤ 1)))
theorem inoOk_parts (D : InoD) : inoOk D = ((decide (1 ≤ D.ino) && decide (D.ino ≤ 1000)) && linkR D && kindI D && entsOk D.ents && attsOk D.attrs) := by
  rw [Bool.eq_iff_iff]
  unfold inoOk linkR kindI kindR
  have hb : ((D.links == 0) == (D.ino == 1)) = true ↔ (D.links = 0 ↔ D.ino = 1) := by
    rw [beq_iff_eq, Bool.eq_iff_iff, beq_iff_eq, beq_iff_eq]
  simp only [Bool.and_eq_true, Bool.or_eq_true, decide_eq_true_eq, hb]
  by_cases h1 : D.ino = 1
  · rw [if_pos h1]
    simp only [decide_eq_true_eq]
    constructor
    · rintro ⟨⟨⟨⟨⟨⟨h, h'⟩, hl⟩, hd⟩, he⟩, ha⟩, hk⟩
      exact ⟨⟨⟨⟨h, hl.2 h1⟩, by omega⟩, he⟩, ha⟩
    · rintro ⟨⟨⟨⟨h, hl⟩, hk⟩, he⟩, ha⟩
      exact ⟨⟨⟨⟨⟨⟨h, by omega⟩, by omega⟩, by omega⟩, he⟩, ha⟩, by omega⟩
  · rw [if_neg h1]
    simp only [Bool.and_eq_true, decide_eq_true_eq]
    constructor
    · rintro ⟨⟨⟨⟨⟨⟨h, h'⟩, hl⟩, hd⟩, he⟩, ha⟩, hk⟩
      exact ⟨⟨⟨⟨h, by omega⟩, by omega⟩, he⟩, ha⟩
    · rintro ⟨⟨⟨⟨h, hl⟩, hk⟩, he⟩, ha⟩
      exact ⟨⟨⟨⟨⟨⟨h, by omega⟩, by omega⟩, by omega⟩, he⟩, ha⟩, by omega⟩
set_option maxHeartbeats 1000000 in
theorem linksOk_any (D : InoD) (a1 a2 a3 : Option Addr) (c1 c2 c3 : Nat) (w : World) :
    Calls Tryz.prog 104 #[inoV D a1 c1 a2 c2 a3 c3] w fun e w' => e = .returned (.bool (linkR D)) ∧ Below w.heap.size w w' := by
  have B0 : Below w.heap.size w (w.alloc (.cells (inoC D a1 c1 a2 c2 a3 c3) 46)) := (Below.refl _ w).alloc (Nat.le_refl _) _
  unfold inoC at B0
  unfold inoV
  by_cases h1 : D.ino = 1
  · have h1' : (D.ino == 1) = true := by rw [h1]; rfl
    by_cases h0 : D.links = 0
    · have h0' : (D.links == 0) = true := by rw [h0]; rfl
      have hf : Hid (linkR D = true) := by show _ = _; unfold linkR; rw [if_pos h1, decide_eq_true h0]
      clear h1 h0
      go_enter Tryz.func104, Tryz.ntmps104
      go_wp2
      go_ret
      exact ⟨ret_bool hf.out.symm, B0⟩
    · have h0' : (D.links == 0) = false := by simp [h0]
      have hf : Hid (linkR D = false) := by show _ = _; unfold linkR; rw [if_pos h1, decide_eq_false h0]
      clear h1 h0
      go_enter Tryz.func104, Tryz.ntmps104
      go_wp2
      go_ret
      exact ⟨ret_bool hf.out.symm, B0⟩
  · have h1' : (D.ino == 1) = false := by simp [h1]
    rcases (show D.links < 1 ∨ (1 ≤ D.links ∧ 1000 < D.links) ∨ (1 ≤ D.links ∧ D.links ≤ 1000) by omega) with h | ⟨h, h'⟩ | ⟨h, h'⟩
    · have hh : ¬ 1 ≤ D.links := by omega
      have hf : Hid (linkR D = false) := by show _ = _; unfold linkR; rw [if_neg h1, decide_eq_false hh]; rfl
      clear h1
      go_enter Tryz.func104, Tryz.ntmps104
      go_wp2
      go_ret
      exact ⟨ret_bool hf.out.symm, B0⟩
    · have hh : ¬ D.links ≤ 1000 := by omega
      have hf : Hid (linkR D = false) := by show _ = _; unfold linkR; rw [if_neg h1, decide_eq_true h, decide_eq_false hh]; rfl
      clear h1
      go_enter Tryz.func104, Tryz.ntmps104
      go_wp2
      go_ret
      exact ⟨ret_bool hf.out.symm, B0⟩
    · have hf : Hid (linkR D = true) := by show _ = _; unfold linkR; rw [if_neg h1, decide_eq_true h, decide_eq_true h']; rfl
      clear h1
      go_enter Tryz.func104, Tryz.ntmps104
      go_wp2
      go_ret
      exact ⟨ret_bool hf.out.symm, B0⟩
theorem nat0_false {n : Nat} (h : ¬ n = 0) : ((n : Int) == 0) = false := by simp; intro e; exact h (by simp [e])
theorem nat0_true {n : Nat} (h : n = 0) : ((n : Int) == 0) = true := by rw [h]; rfl
set_option maxHeartbeats 1000000 in
theorem kindOk_any (D : InoD) (a1 a2 a3 : Option Addr) (c1 c2 c3 : Nat) (w : World) (hd1 : D.data.length ≤ 1048576) (_ : D.ents.length ≤ 1048576) :
    Calls Tryz.prog 105 #[inoV D a1 c1 a2 c2 a3 c3] w fun e w' => e = .returned (.bool (kindI D)) ∧ Below w.heap.size w w' := by
  have B0 : Below w.heap.size w (w.alloc (.cells (inoC D a1 c1 a2 c2 a3 c3) 46)) := (Below.refl _ w).alloc (Nat.le_refl _) _
  unfold inoC at B0
  unfold inoV
  rcases (show D.kind = 1 ∨ D.kind = 2 ∨ (D.kind ≠ 1 ∧ D.kind ≠ 2) by omega) with hk | hk | ⟨hk, hk2⟩
  · have hk1 : (D.kind == 1) = true := by rw [hk]; rfl
    have hkr : Hid (kindI D = (decide (D.data.length ≤ 100) && decide (D.ents.length = 0))) := by show _ = _; unfold kindI; rw [hk]; simp
    clear hk
    by_cases hd : D.data.length ≤ 100
    · have hd' : (D.data.length : Int) ≤ 100 := by omega
      by_cases h0 : D.ents.length = 0
      · have h0' := nat0_true h0
        go_enter Tryz.func105, Tryz.ntmps105
        go_wp2
        go_ret
        exact ⟨ret_bool (by rw [hkr.out, decide_eq_true hd, decide_eq_true h0]; rfl), (Below.refl _ w).alloc (Nat.le_refl _) _⟩
      · have h0' := nat0_false h0
        go_enter Tryz.func105, Tryz.ntmps105
        go_wp2
        go_ret
        exact ⟨ret_bool (by rw [hkr.out, decide_eq_true hd, decide_eq_false h0]; rfl), (Below.refl _ w).alloc (Nat.le_refl _) _⟩
    · have hd' : ¬ (D.data.length : Int) ≤ 100 := by omega
      go_enter Tryz.func105, Tryz.ntmps105
      go_wp2
      go_ret
      exact ⟨ret_bool (by rw [hkr.out, decide_eq_false hd]; rfl), (Below.refl _ w).alloc (Nat.le_refl _) _⟩
  · have hk1 : (D.kind == 1) = false := by rw [hk]; rfl
    have hk2 : (D.kind == 2) = true := by rw [hk]; rfl
    have hkr : Hid (kindI D = (decide (D.data.length = 0) && decide (D.links ≤ 1))) := by show _ = _; unfold kindI; rw [hk]; simp
    clear hk
    by_cases h0 : D.data.length = 0
    · have h0' := nat0_true h0
      by_cases hl : D.links ≤ 1
      · have hf : Hid (kindI D = true) := by show _ = _; rw [hkr.out, decide_eq_true h0, decide_eq_true hl]; rfl
        go_enter Tryz.func105, Tryz.ntmps105
        go_wp2
        go_ret
        exact ⟨ret_bool hf.out.symm, (Below.refl _ w).alloc (Nat.le_refl _) _⟩
      · have hf : Hid (kindI D = false) := by show _ = _; rw [hkr.out, decide_eq_false hl]; simp
        go_enter Tryz.func105, Tryz.ntmps105
        go_wp2
        go_ret
        exact ⟨ret_bool hf.out.symm, (Below.refl _ w).alloc (Nat.le_refl _) _⟩
    · have h0' := nat0_false h0
      have hf : Hid (kindI D = false) := by show _ = _; rw [hkr.out, decide_eq_false h0]; simp
      go_enter Tryz.func105, Tryz.ntmps105
      go_wp2
      go_ret
      exact ⟨ret_bool hf.out.symm, (Below.refl _ w).alloc (Nat.le_refl _) _⟩
  · have hk1 : (D.kind == 1) = false := by simp [hk]
    have hk2' : (D.kind == 2) = false := by simp [hk2]
    have hkr : Hid (kindI D = false) := by show _ = _; unfold kindI; simp [hk, hk2]
    clear hk hk2
    go_enter Tryz.func105, Tryz.ntmps105
    go_wp2
    go_ret
    exact ⟨ret_bool hkr.out.symm, (Below.refl _ w).alloc (Nat.le_refl _) _⟩
set_option maxHeartbeats 4000000 in
theorem inoOkI (D : InoD) (a1 a2 a3 : Option Addr) (c1 c2 c3 : Nat) (w : World) (hm : InoSmall D) (hr : InoRd w D a1 a2 a3) :
    Calls Tryz.prog 62 #[inoV D a1 c1 a2 c2 a3 c3] w fun e w' => e = .returned (.bool (inoOk D)) ∧ Below w.heap.size w w' := by
  obtain ⟨s1, s2, s3, s4, s5⟩ := hm
  have B0 : Below w.heap.size w (w.alloc (.cells (inoC D a1 c1 a2 c2 a3 c3) 46)) := (Below.refl _ w).alloc (Nat.le_refl _) _
  have z0 := Box.new w 46 D a1 a2 a3 c1 c2 c3
  unfold inoC at B0 z0
  have hp : Hid _ := inoOk_parts D
  rw [show inoV D a1 c1 a2 c2 a3 c3 = .agg #[.int .i64 D.ino, .int .i64 D.kind, .int .i64 D.links, .slice a1 D.data.length c1, .slice a2 D.ents.length c2, .slice a3 D.attrs.length c3] from rfl]
  rcases (show D.ino < 1 ∨ (1 ≤ D.ino ∧ 1000 < D.ino) ∨ (1 ≤ D.ino ∧ D.ino ≤ 1000) by omega) with h | ⟨h, h'⟩ | ⟨h, h'⟩
  · have hh : ¬ 1 ≤ D.ino := by omega
    have hf : Hid (inoOk D = false) := by show _ = _; rw [hp.out, decide_eq_false hh]; rfl
    go_enter Tryz.func62, Tryz.ntmps62
    go_wp2
    go_ret
    exact ⟨ret_bool hf.out.symm, B0⟩
  · have hh : ¬ D.ino ≤ 1000 := by omega
    have hf : Hid (inoOk D = false) := by show _ = _; rw [hp.out, decide_eq_true h, decide_eq_false hh]; rfl
    go_enter Tryz.func62, Tryz.ntmps62
    go_wp2
    go_ret
    exact ⟨ret_bool hf.out.symm, B0⟩
  · have hf : Hid (inoOk D = (linkR D && kindI D && entsOk D.ents && attsOk D.attrs)) := by show _ = _; rw [hp.out, decide_eq_true h, decide_eq_true h']; rfl
    go_enter Tryz.func62, Tryz.ntmps62
    go_wp2_with fail
    obtain ⟨W0, hW0⟩ : ∃ W, w.alloc (.cells #[.int .i64 D.ino, .int .i64 D.kind, .int .i64 D.links, .slice a1 D.data.length c1, .slice a2 D.ents.length c2, .slice a3 D.attrs.length c3] 46) = W := ⟨_, rfl⟩
    rw [hW0] at B0 z0 ⊢
    clear hW0
    refine (linksOk_any D a1 a2 a3 c1 c2 c3 W0).mono ?_
    rintro e w1 ⟨rfl, b1⟩
    have B1 := B0.trans (b1.mono B0.size)
    have z1 := z0.keep b1
    obtain ⟨q0, q1, q2, q3, q4, q5⟩ := z1.six
    cases hl : linkR D with
    | false =>
      go_wp2
      go_ret
      exact ⟨ret_bool (by rw [hf.out, hl]; rfl), B1⟩
    | true =>
    go_wp2_with fail
    refine (kindOk_any D a1 a2 a3 c1 c2 c3 w1 s1 s2).mono ?_
    rintro e w2 ⟨rfl, b2⟩
    have B2 := B1.trans (b2.mono B1.size)
    have z2 := z1.keep b2
    clear q0 q1 q2 q3 q4 q5
    obtain ⟨q0, q1, q2, q3, q4, q5⟩ := z2.six
    cases hk : kindI D with
    | false =>
      go_wp2
      go_ret
      exact ⟨ret_bool (by rw [hf.out, hl, hk]; rfl), B2⟩
    | true =>
    go_wp2_with fail
    refine (implE_any a2 _ c2 D.ents w2 rfl s2 s4 (hr.ents.keep B2)).mono ?_
    rintro e w3 ⟨rfl, b3⟩
    have B3 := B2.trans (b3.mono B2.size)
    have z3 := z2.keep b3
    clear q0 q1 q2 q3 q4 q5
    obtain ⟨q0, q1, q2, q3, q4, q5⟩ := z3.six
    cases he : entsOk D.ents with
    | false =>
      go_wp2
      go_ret
      exact ⟨ret_bool (by rw [hf.out, hl, hk, he]; rfl), B3⟩
    | true =>
    go_wp2_with fail
    refine (implA_any a3 _ c3 D.attrs w3 rfl s3 s5 (hr.attrs.keep B3)).mono ?_
    rintro e w4 ⟨rfl, b4⟩
    have B4 := B3.trans (b4.mono B3.size)
    go_wp2
    go_ret
    exact ⟨ret_bool (by rw [hf.out, hl, hk, he]; rfl), B4⟩
end Go.Proofs.YtnadeelnjhollaaGreat
