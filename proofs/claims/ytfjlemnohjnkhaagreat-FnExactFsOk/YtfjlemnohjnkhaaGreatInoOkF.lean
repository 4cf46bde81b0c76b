/-
  When an inode is right: what the specification's InodeOk answers.
-/
import Derived.Test.YtfjlemnohjnkhaaGreatJ04F
import Derived.Test.YtfjlemnohjnkhaaGreatAttsOkF
namespace Go.Proofs.YtfjlemnohjnkhaaGreat
open Go.RowKit
/-- The kind is right for the rest. -/
def kindR (D : InoD) : Bool := (decide (D.kind = 1) && decide (D.ents.length = 0)) || (decide (D.kind = 2) && (decide (D.data.length = 0) && decide (D.links ≤ 1)))
/-- The inode is right. -/
def inoOk (D : InoD) : Bool :=
  (decide (1 ≤ D.ino) && decide (D.ino ≤ 1000)) && (decide (0 ≤ D.links) && decide (D.links ≤ 1000)) && ((D.links == 0) == (D.ino == 1)) && decide (D.data.length ≤ 100) && entsOk D.ents && attsOk D.attrs && kindR D
theorem drewN_below {w w' : World} {B : Nat} (h : ∃ d, w' = w.drewN d) : Below B w w' := by
  obtain ⟨d, rfl⟩ := h
  exact below_drewN (Below.refl _ _) d
set_option maxHeartbeats 4000000 in
theorem inoOkS (D : InoD) (a1 a2 a3 : Option Addr) (c1 c2 c3 : Nat) (w : World) (hm : InoSmall D) (hr : InoRd w D a1 a2 a3) :
    Calls Tryz.prog 76 #[inoV D a1 c1 a2 c2 a3 c3] w fun e w' => e = .returned (.bool (inoOk D)) ∧ Below w.heap.size w w' := by
  obtain ⟨s1, s2, s3, s4, s5⟩ := hm
  have B0 : Below w.heap.size w (w.alloc (.cells (inoC D a1 c1 a2 c2 a3 c3) 85)) := (Below.refl _ w).alloc (Nat.le_refl _) _
  have z0 := Box.new w 85 D a1 a2 a3 c1 c2 c3
  unfold inoC at B0 z0
  unfold inoV
  cases hA : (decide (1 ≤ D.ino) && decide (D.ino ≤ 1000)) with
  | false =>
    have hfin : Hid (inoOk D = false) := by show _ = _; unfold inoOk; rw [hA]; rfl
    have H1 : ∀ W : World, Calls Tryz.prog 18 #[.int .i64 D.ino, .int .i64 1, .int .i64 1000] W fun e w' => e = .returned (.bool false) ∧ w' = W := fun W => by rw [← hA]; exact l1In_any D.ino 1 1000 W
    go_enter Tryz.func76, Tryz.ntmps76
    go_wp2_with fail
    refine (H1 _).mono ?_
    rintro e w1 ⟨rfl, rfl⟩
    go_wp2
    go_ret
    exact ⟨ret_bool hfin.out.symm, B0⟩
  | true =>
  have H1 : ∀ W : World, Calls Tryz.prog 18 #[.int .i64 D.ino, .int .i64 1, .int .i64 1000] W fun e w' => e = .returned (.bool true) ∧ w' = W := fun W => by rw [← hA]; exact l1In_any D.ino 1 1000 W
  cases hL : (decide (0 ≤ D.links) && decide (D.links ≤ 1000)) with
  | false =>
    have hfin : Hid (inoOk D = false) := by show _ = _; unfold inoOk; rw [hA, hL]; rfl
    have H2 : ∀ W : World, Calls Tryz.prog 18 #[.int .i64 D.links, .int .i64 0, .int .i64 1000] W fun e w' => e = .returned (.bool false) ∧ w' = W := fun W => by rw [← hL]; exact l1In_any D.links 0 1000 W
    go_enter Tryz.func76, Tryz.ntmps76
    go_wp2_with fail
    refine (H1 _).mono ?_
    rintro e w1 ⟨rfl, rfl⟩
    go_wp2_with fail
    refine (H2 _).mono ?_
    rintro e w1 ⟨rfl, rfl⟩
    go_wp2
    go_ret
    exact ⟨ret_bool hfin.out.symm, B0⟩
  | true =>
  have H2 : ∀ W : World, Calls Tryz.prog 18 #[.int .i64 D.links, .int .i64 0, .int .i64 1000] W fun e w' => e = .returned (.bool true) ∧ w' = W := fun W => by rw [← hL]; exact l1In_any D.links 0 1000 W
  have HA : Hid _ := hA
  have HLk : Hid _ := hL
  clear hA hL
  cases hQ0 : (D.links == 0) with
  | _ =>
  cases hQ1 : (D.ino == 1) with
  | _ =>
    first
    | (have hne : ((D.links == 0) == (D.ino == 1)) = false := by rw [hQ0, hQ1]; rfl
       have hfin : Hid (inoOk D = false) := by show _ = _; unfold inoOk; rw [HA.out, HLk.out, hne]; rfl
       go_enter Tryz.func76, Tryz.ntmps76
       go_wp2_with fail
       refine (H1 _).mono ?_
       rintro e w1 ⟨rfl, rfl⟩
       go_wp2_with fail
       refine (H2 _).mono ?_
       rintro e w1 ⟨rfl, rfl⟩
       go_wp2
       go_ret
       exact ⟨ret_bool hfin.out.symm, B0⟩)
    | (have heq : ((D.links == 0) == (D.ino == 1)) = true := by rw [hQ0, hQ1]; rfl
       by_cases hd : 100 < D.data.length
       · have hd' : (100 : Int) < (D.data.length : Int) := by omega
         have hfin : Hid (inoOk D = false) := by show _ = _; unfold inoOk; rw [HA.out, HLk.out, heq, decide_eq_false (by omega : ¬ D.data.length ≤ 100)]; rfl
         go_enter Tryz.func76, Tryz.ntmps76
         go_wp2_with fail
         refine (H1 _).mono ?_
         rintro e w1 ⟨rfl, rfl⟩
         go_wp2_with fail
         refine (H2 _).mono ?_
         rintro e w1 ⟨rfl, rfl⟩
         go_wp2
         go_ret
         exact ⟨ret_bool hfin.out.symm, B0⟩
       · have hd' : ¬ (100 : Int) < (D.data.length : Int) := by omega
         have hfin : Hid (inoOk D = (entsOk D.ents && attsOk D.attrs && kindR D)) := by show _ = _; unfold inoOk; rw [HA.out, HLk.out, heq, decide_eq_true (by omega : D.data.length ≤ 100)]; rfl
         go_enter Tryz.func76, Tryz.ntmps76
         go_wp2_with fail
         refine (H1 _).mono ?_
         rintro e w1 ⟨rfl, rfl⟩
         go_wp2_with fail
         refine (H2 _).mono ?_
         rintro e w1 ⟨rfl, rfl⟩
         go_wp2_with fail
         have h4 := hr.ents.keep B0
         obtain ⟨W0, hW0⟩ : ∃ W, w.alloc (.cells #[.int .i64 D.ino, .int .i64 D.kind, .int .i64 D.links, .slice a1 D.data.length c1, .slice a2 D.ents.length c2, .slice a3 D.attrs.length c3] 85) = W := ⟨_, rfl⟩
         rw [hW0] at B0 z0 h4 ⊢
         clear hW0
         refine (l3Ents_any a2 _ c2 D.ents W0 rfl s2 s4 h4).mono ?_
         rintro e w2 ⟨rfl, hdr⟩
         have b2 : Below W0.heap.size W0 w2 := drewN_below hdr
         have B2 := B0.trans (b2.mono B0.size)
         have z2 := z0.keep b2
         have h5 := hr.attrs.keep B2
         obtain ⟨q0, q1, q2, q3, q4, q5⟩ := z2.six
         clear hdr
         cases hE : entsOk D.ents with
         | false =>
           go_wp2
           go_ret
           exact ⟨ret_bool (by rw [hfin.out, hE]; rfl), B2⟩
         | true =>
           go_wp2_with fail
           refine (l3Attrs_any a3 _ c3 D.attrs w2 rfl s3 s5 h5).mono ?_
           rintro e w3 ⟨rfl, hdr⟩
           have b3 : Below w2.heap.size w2 w3 := drewN_below hdr
           have B3 := B2.trans (b3.mono B2.size)
           have z3 := z2.keep b3
           clear q0 q1 q2 q3 q4 q5 hdr
           obtain ⟨q0, q1, q2, q3, q4, q5⟩ := z3.six
           cases hT : attsOk D.attrs with
           | false =>
             go_wp2
             go_ret
             exact ⟨ret_bool (by rw [hfin.out, hE, hT]; rfl), B3⟩
           | true =>
             have hfin2 : Hid (inoOk D = kindR D) := by show _ = _; rw [hfin.out, hE, hT]; rfl
             have hr' : D.data.length ≤ 1048576 := s1
             have hlk := HLk.out
             simp only [Bool.and_eq_true, decide_eq_true_eq] at hlk
             clear hfin
             rcases (show D.kind = 1 ∨ D.kind = 2 ∨ (D.kind ≠ 1 ∧ D.kind ≠ 2) by omega) with hk | hk | ⟨hk, hk2⟩
             · have hk1 : (D.kind == 1) = true := by rw [hk]; rfl
               have hkr : Hid (kindR D = decide (D.ents.length = 0)) := by show _ = _; unfold kindR; rw [hk]; simp
               by_cases h0 : D.ents.length = 0
               · have h0' : ((D.ents.length : Int) == 0) = true := by rw [h0]; rfl
                 clear hk
                 go_wp2
                 go_ret
                 exact ⟨ret_bool (by rw [hfin2.out, hkr.out, decide_eq_true h0]), B3⟩
               · have h0' : ((D.ents.length : Int) == 0) = false := by simp; intro h; exact h0 (by simp [h])
                 clear hk
                 go_wp2
                 go_ret
                 exact ⟨ret_bool (by rw [hfin2.out, hkr.out, decide_eq_false h0]), B3⟩
             · have hk1 : (D.kind == 1) = false := by rw [hk]; rfl
               have hk2 : (D.kind == 2) = true := by rw [hk]; rfl
               have hkr : Hid (kindR D = (decide (D.data.length = 0) && decide (D.links ≤ 1))) := by show _ = _; unfold kindR; rw [hk]; simp
               by_cases h0 : D.data.length = 0
               · have h0' : ((D.data.length : Int) == 0) = true := by rw [h0]; rfl
                 by_cases hl1 : D.links ≤ 1
                 · clear hk
                   go_wp2
                   go_ret
                   exact ⟨ret_bool (by rw [hfin2.out, hkr.out, decide_eq_true h0, decide_eq_true (by omega : D.links ≤ 1)]; rfl), B3⟩
                 · clear hk
                   go_wp2
                   go_ret
                   exact ⟨ret_bool (by rw [hfin2.out, hkr.out, decide_eq_true h0, decide_eq_false (by omega : ¬ D.links ≤ 1)]; rfl), B3⟩
               · have h0' : ((D.data.length : Int) == 0) = false := by simp; intro h; exact h0 (by simp [h])
                 clear hk
                 go_wp2
                 go_ret
                 exact ⟨ret_bool (by rw [hfin2.out, hkr.out, decide_eq_false h0]; rfl), B3⟩
             · have hk1 : (D.kind == 1) = false := by simp [hk]
               have hk2' : (D.kind == 2) = false := by simp [hk2]
               have hkr : Hid (kindR D = false) := by show _ = _; unfold kindR; simp [hk, hk2]
               clear hk hk2
               go_wp2
               go_ret
               exact ⟨ret_bool (by rw [hfin2.out, hkr.out]), B3⟩)
end Go.Proofs.YtfjlemnohjnkhaaGreat
