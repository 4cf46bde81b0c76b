/-
  Rows of tables of volumes: the marks.
-/
import Derived.Test.YtmkcadnpleijdaaMarkIQ
import Derived.Test.YtmkcadnpleijdaaTbMQ
namespace Go.Proofs.Ytmkcadnpleijdaa
open Go.RowKit
/-- The marks. -/
def mkR (q : Nat) : RwD := ⟨(q : Int), mt (q + 1), decide ((q + 2) % 3 = 0), ((q + 3 : Nat) : Int), ((q + 4 : Nat) : Int)⟩
def mkRw (k m : Nat) : List RwD := (List.range m).map fun i => mkR (k + 5 * i)
theorem mkRw_len (k m : Nat) : (mkRw k m).length = m := by simp [mkRw]
theorem mkRw_at {k m i : Nat} (h : i < m) : (mkRw k m)[i]? = some (mkR (k + 5 * i)) := by simp [mkRw, h]
theorem mkRw_set {k i : Nat} {ps : List RwD} (h : i < ps.length) : (mkRw k i ++ ps.drop i).set i (mkR (k + 5 * i)) = mkRw k (i + 1) ++ ps.drop (i + 1) := by
  rw [List.set_append_right _ _ (by rw [mkRw_len]; omega), mkRw_len, Nat.sub_self, List.drop_eq_getElem_cons h, List.set_cons_zero]
  simp [mkRw, List.range_succ]
theorem mkRw_now {k i : Nat} {ps : List RwD} {r : RwD} (h : ps[i]? = some r) : (mkRw k i ++ ps.drop i)[i]? = some r := by
  rw [List.getElem?_append_right (by rw [mkRw_len]; omega), mkRw_len, Nat.sub_self, List.getElem?_drop]
  simpa using h
theorem rem_three (m : Nat) : (((m : Int) % 3) == 0) = decide (m % 3 = 0) := by
  rw [Bool.eq_iff_iff]
  simp
  omega
set_option maxRecDepth 100000 in
set_option maxHeartbeats 8000000 in
theorem markRowS_any (v : Value) (n k0 : Nat) (ps : List RwD) (w : World) (h1 : 1 ≤ k0) (hs : k0 + 5 * n ≤ 9999990) (hO : OwnRw w v n ps) :
    Calls Try.prog 50 #[v, .int .i64 k0] w fun e w' => e = .returned (.int .i64 ((k0 + 5 * n : Nat) : Int)) ∧ OwnRw w' v n (mkRw k0 n) ∧ Sv v.ownBlock.toList w w' := by
  have hln : ps.length = n := OwnE.len hO
  have hO1 : OwnE rwE 35 w v n ps := hO
  rcases hO1.cases with ⟨rfl, rfl, rfl⟩ | ⟨g, c, rfl, hglt⟩
  · go_enter Try.func50, Try.ntmps50
    go_wp2
    refine wp_loop_rounds 1 ?_; rw [rounds_succ]
    go_wp2
    go_ret
    exact ⟨by simp, hO, Sv.refl _ _⟩
  · have HO : Hid (OwnE rwE 35 w (.slice (some ⟨g, 0, none⟩) n c) n (mkRw k0 0 ++ ps.drop 0)) := hO
    have HN : Hid (ps.length = n) := hln
    clear hO hO1 hln
    go_enter Try.func50, Try.ntmps50
    go_wp2
    go_loopw [1, 5] (fun q i wr => ∃ (k m : Nat), k ≤ n ∧ i = .int .i64 k ∧ q = .int .i64 (m : Int) ∧ Hid (m = k0 + 5 * k) ∧ Hid (OwnE rwE 35 wr (.slice (some ⟨g, 0, none⟩) n c) n (mkRw k0 k ++ ps.drop k)) ∧ Hid (Sv [g] w wr)) (fun _ i _ => n - (intOf i).toNat)
    case atStart => exact ⟨0, k0, Nat.zero_le _, rfl, rfl, by show _ = _; omega, HO, Sv.refl _ _⟩
    case round =>
      obtain ⟨k, m, hk, rfl, rfl, hm, hOw, hSv⟩ := hrel
      by_cases hkn : k < n
      · have hki : (k : Int) < (n : Int) := by omega
        have hmo := hm.out
        have hm9 : m + 5 ≤ 9999990 := by omega
        obtain ⟨r, hrk⟩ : ∃ r, ps[k]? = some r := ⟨_, List.getElem?_eq_getElem (by rw [HN.out]; exact hkn)⟩
        have hat := mkRw_now (k := k0) hrk
        have hown := hOw.out
        have q0 : wr.cell? ⟨g, k * 5, none⟩ = some (.int .i64 r.id) := hown.cell k 0 r hat (by decide)
        have f0 : wr.frozen? ⟨g, k * 5, none⟩ = false := hown.frozen (k * 5)
        have s0 : OwnE rwE 35 (wr.setCell ⟨g, k * 5, none⟩ (.int .i64 (m : Int))) (.slice (some ⟨g, 0, none⟩) n c) n _ := hown.set k 0 r ⟨(m : Int), r.name, r.ro, r.lim, r.mp⟩ (.int .i64 (m : Int)) hat (by decide) (by simp [rwE])
        have hS0 : Sv [g] wr (wr.setCell ⟨g, k * 5, none⟩ (.int .i64 (m : Int))) := Sv.gr (gr_setC wr g (k * 5) _) (fun x hx => by simp at hx; simp [hx])
        have a1 : ((mkRw k0 k ++ ps.drop k).set k ⟨(m : Int), r.name, r.ro, r.lim, r.mp⟩)[k]? = some ⟨(m : Int), r.name, r.ro, r.lim, r.mp⟩ := by rw [List.getElem?_set_self (List.getElem?_eq_some_iff.1 hat).1]
        have HS0 : Hid (OwnE rwE 35 (wr.setCell ⟨g, k * 5, none⟩ (.int .i64 (m : Int))) (.slice (some ⟨g, 0, none⟩) n c) n ((mkRw k0 k ++ ps.drop k).set k ⟨(m : Int), r.name, r.ro, r.lim, r.mp⟩)) := s0
        have HSV0 : Hid (Sv [g] w (wr.setCell ⟨g, k * 5, none⟩ (.int .i64 (m : Int)))) := hSv.out.trans hS0
        have hglt0 := s0.lt (g := g) rfl
        clear hown hS0 s0 hmo
        go_wp2_with fail
        obtain ⟨W0, hW0⟩ : ∃ W, wr.setCell ⟨g, k * 5, none⟩ (.int .i64 (m : Int)) = W := ⟨_, rfl⟩
        have s0 := HS0.out
        have sv0 := HSV0.out
        try simp only [hW0] at s0 sv0 hglt0 ⊢
        clear HS0 HSV0 hW0 q0 f0
        refine (markText_big (m + 1) W0 (by omega) (by omega)).mono ?_
        rintro e w1 ⟨rfl, b1⟩
        have o1 := s0.keep b1
        have sv1 := sv0.trans (Below.sv b1 _)
        obtain ⟨T1, hT1⟩ : ∃ T, mt (m + 1) = T := ⟨_, rfl⟩
        rw [hT1]
        have q1 : w1.cell? ⟨g, k * 5 + 1, none⟩ = some (.string r.name) := o1.cell k 1 ⟨(m : Int), r.name, r.ro, r.lim, r.mp⟩ a1 (by decide)
        have q2 : w1.cell? ⟨g, k * 5 + 2, none⟩ = some (.bool r.ro) := o1.cell k 2 ⟨(m : Int), r.name, r.ro, r.lim, r.mp⟩ a1 (by decide)
        have q3 : w1.cell? ⟨g, k * 5 + 3, none⟩ = some (.int .i64 r.lim) := o1.cell k 3 ⟨(m : Int), r.name, r.ro, r.lim, r.mp⟩ a1 (by decide)
        have q4 : w1.cell? ⟨g, k * 5 + 4, none⟩ = some (.int .i64 r.mp) := o1.cell k 4 ⟨(m : Int), r.name, r.ro, r.lim, r.mp⟩ a1 (by decide)
        have f1 := o1.frozen (k * 5 + 1)
        have f2 := o1.frozen (k * 5 + 2)
        have f3 := o1.frozen (k * 5 + 3)
        have f4 := o1.frozen (k * 5 + 4)
        have s1 := o1.set k 1 _ ⟨(m : Int), T1, r.ro, r.lim, r.mp⟩ (.string T1) a1 (by decide) (by simp [rwE])
        rw [set_set_at] at s1
        have a2 : ((mkRw k0 k ++ ps.drop k).set k ⟨(m : Int), T1, r.ro, r.lim, r.mp⟩)[k]? = some ⟨(m : Int), T1, r.ro, r.lim, r.mp⟩ := by rw [List.getElem?_set_self (List.getElem?_eq_some_iff.1 hat).1]
        have s2 := s1.set k 2 _ ⟨(m : Int), T1, decide ((m + 2) % 3 = 0), r.lim, r.mp⟩ (.bool (decide ((m + 2) % 3 = 0))) a2 (by decide) (by simp [rwE])
        rw [set_set_at] at s2
        have a3 : ((mkRw k0 k ++ ps.drop k).set k ⟨(m : Int), T1, decide ((m + 2) % 3 = 0), r.lim, r.mp⟩)[k]? = some ⟨(m : Int), T1, decide ((m + 2) % 3 = 0), r.lim, r.mp⟩ := by rw [List.getElem?_set_self (List.getElem?_eq_some_iff.1 hat).1]
        have s3 := s2.set k 3 _ ⟨(m : Int), T1, decide ((m + 2) % 3 = 0), ((m + 3 : Nat) : Int), r.mp⟩ (.int .i64 ((m + 3 : Nat) : Int)) a3 (by decide) (by simp [rwE])
        rw [set_set_at] at s3
        have a4 : ((mkRw k0 k ++ ps.drop k).set k ⟨(m : Int), T1, decide ((m + 2) % 3 = 0), ((m + 3 : Nat) : Int), r.mp⟩)[k]? = some ⟨(m : Int), T1, decide ((m + 2) % 3 = 0), ((m + 3 : Nat) : Int), r.mp⟩ := by rw [List.getElem?_set_self (List.getElem?_eq_some_iff.1 hat).1]
        have s4 := s3.set k 4 _ ⟨(m : Int), T1, decide ((m + 2) % 3 = 0), ((m + 3 : Nat) : Int), ((m + 4 : Nat) : Int)⟩ (.int .i64 ((m + 4 : Nat) : Int)) a4 (by decide) (by simp [rwE])
        rw [set_set_at, show (⟨(m : Int), T1, decide ((m + 2) % 3 = 0), ((m + 3 : Nat) : Int), ((m + 4 : Nat) : Int)⟩ : RwD) = mkR (k0 + 5 * k) by unfold mkR; rw [← hm.out, hT1], mkRw_set (by rw [HN.out]; exact hkn)] at s4
        have hr3 := rem_three (m + 2)
        have hr3' : IntKind.i64.wrap (((m + 2 : Nat) : Int) % 3) = ((m + 2 : Nat) : Int) % 3 := by rw [wrap_small _ (by omega) (by omega)]
        generalize decide ((m + 2) % 3 = 0) = fl at s4 hr3
        have gS : w1.grownBy ((((w1.setCell ⟨g, k * 5 + 1, none⟩ (.string T1)).setCell ⟨g, k * 5 + 2, none⟩ (.bool fl)).setCell ⟨g, k * 5 + 3, none⟩ (.int .i64 ((m + 3 : Nat) : Int))).setCell ⟨g, k * 5 + 4, none⟩ (.int .i64 ((m + 4 : Nat) : Int))) (some g) := gr_more (gr_more (gr_more (gr_setC w1 g (k * 5 + 1) _) _ _) _ _) _ _
        have S2 : Hid (OwnE rwE 35 ((((w1.setCell ⟨g, k * 5 + 1, none⟩ (.string T1)).setCell ⟨g, k * 5 + 2, none⟩ (.bool fl)).setCell ⟨g, k * 5 + 3, none⟩ (.int .i64 ((m + 3 : Nat) : Int))).setCell ⟨g, k * 5 + 4, none⟩ (.int .i64 ((m + 4 : Nat) : Int))) (.slice (some ⟨g, 0, none⟩) n c) n (mkRw k0 (k + 1) ++ ps.drop (k + 1))) := s4
        have HSV : Hid (Sv [g] w ((((w1.setCell ⟨g, k * 5 + 1, none⟩ (.string T1)).setCell ⟨g, k * 5 + 2, none⟩ (.bool fl)).setCell ⟨g, k * 5 + 3, none⟩ (.int .i64 ((m + 3 : Nat) : Int))).setCell ⟨g, k * 5 + 4, none⟩ (.int .i64 ((m + 4 : Nat) : Int)))) := sv1.trans (Sv.gr gS (fun x hx => by simp at hx; simp [hx]))
        have HT : Hid (m + 5 = k0 + 5 * (k + 1)) := by show _ = _; have := hm.out; omega
        clear s0 sv0 o1 sv1 s1 s2 s3 s4 a1 a2 a3 a4 hat hrk gS b1 hT1
        have e3 : (((m + 2 : Nat) : Int) = (m : Int) + 1 + 1) := by omega
        have e4 : (((m + 3 : Nat) : Int) = (m : Int) + 1 + 1 + 1) := by omega
        have e5 : (((m + 4 : Nat) : Int) = (m : Int) + 1 + 1 + 1 + 1) := by omega
        rw [e3] at hr3 hr3'
        rw [e4, e5] at S2 HSV
        clear e3 e4 e5
        go_wp2
        go_roundw
        case rel => exact ⟨k + 1, m + 5, by omega, by go_num, by go_num, HT, S2, HSV⟩
        case measure => simp [intOf]; omega
      · have hki : ¬ (k : Int) < (n : Int) := by omega
        obtain rfl : k = n := by omega
        go_wp2
        go_ret
        have := hOw.out
        rw [List.drop_of_length_le (by rw [HN.out]; omega), List.append_nil] at this
        have hmm := hm.out
        exact ⟨by show Ending.returned (.int .i64 (m : Int)) = _; exact ret_int (by omega), this, hSv.out⟩
set_option maxRecDepth 100000 in
set_option maxHeartbeats 8000000 in
theorem heldRowS_any (v : Value) (n k0 : Nat) (w : World) (h1 : 1 ≤ k0) (hs : k0 + 5 * n ≤ 9999990) (hO : OwnRw w v n (mkRw k0 n)) :
    Calls Try.prog 51 #[v, .int .i64 k0] w fun e w' => e = .returned (.int .i64 ((k0 + 5 * n : Nat) : Int)) ∧ Below w.heap.size w w' := by
  have hO1 : OwnE rwE 35 w v n (mkRw k0 n) := hO
  rcases hO1.cases with ⟨rfl, rfl, _⟩ | ⟨g, c, rfl, hglt⟩
  · go_enter Try.func51, Try.ntmps51
    go_wp2
    refine wp_loop_rounds 1 ?_; rw [rounds_succ]
    go_wp2
    go_ret
    exact ⟨by simp, Below.refl _ _⟩
  · have HO : Hid (OwnE rwE 35 w (.slice (some ⟨g, 0, none⟩) n c) n (mkRw k0 n)) := hO
    clear hO hO1
    go_enter Try.func51, Try.ntmps51
    go_wp2
    go_loopw [1, 5] (fun q i wr => ∃ (k m : Nat), k ≤ n ∧ i = .int .i64 k ∧ q = .int .i64 (m : Int) ∧ Hid (m = k0 + 5 * k) ∧ Hid (Below w.heap.size w wr)) (fun _ i _ => n - (intOf i).toNat)
    case atStart => exact ⟨0, k0, Nat.zero_le _, rfl, rfl, by show _ = _; omega, Below.refl _ _⟩
    case round =>
      obtain ⟨k, m, hk, rfl, rfl, hm, hB⟩ := hrel
      by_cases hkn : k < n
      · have hki : (k : Int) < (n : Int) := by omega
        have hmo := hm.out
        have hm9 : m + 5 ≤ 9999990 := by omega
        have hat := mkRw_at (k := k0) hkn
        rw [← hmo] at hat
        have hown := OwnE.keep HO.out hB.out
        obtain ⟨T1, hT1⟩ : ∃ T, mt (m + 1) = T := ⟨_, rfl⟩
        have q0 : wr.cell? ⟨g, k * 5, none⟩ = some (.int .i64 (m : Int)) := hown.cell k 0 _ hat (by decide)
        have q1 : wr.cell? ⟨g, k * 5 + 1, none⟩ = some (.string T1) := (hown.cell k 1 _ hat (by decide)).trans (by simp [rwE, mkR, hT1])
        have q2 : wr.cell? ⟨g, k * 5 + 2, none⟩ = some (.bool (decide ((m + 2) % 3 = 0))) := hown.cell k 2 _ hat (by decide)
        have q3 : wr.cell? ⟨g, k * 5 + 3, none⟩ = some (.int .i64 ((m : Int) + 1 + 1 + 1)) := (hown.cell k 3 _ hat (by decide)).trans (by simp [rwE, mkR]; omega)
        have q4 : wr.cell? ⟨g, k * 5 + 4, none⟩ = some (.int .i64 ((m : Int) + 1 + 1 + 1 + 1)) := (hown.cell k 4 _ hat (by decide)).trans (by simp [rwE, mkR]; omega)
        have hr3 := rem_three (m + 2)
        have hr3' : IntKind.i64.wrap (((m + 2 : Nat) : Int) % 3) = ((m + 2 : Nat) : Int) % 3 := by rw [wrap_small _ (by omega) (by omega)]
        have e3 : (((m + 2 : Nat) : Int) = (m : Int) + 1 + 1) := by omega
        rw [e3] at hr3 hr3'
        generalize decide ((m + 2) % 3 = 0) = fl at q2 hr3
        have hgw := hown.lt (g := g) rfl
        have e0 : ((m : Int) != (m : Int)) = false := by simp
        have e1 : (T1.toList == T1.toList) = true := by simp
        have e1b : (T1.toList != T1.toList) = false := by simp
        have e2 : (fl != fl) = false := by simp
        have e4 : ((m : Int) + 1 + 1 + 1 != (m : Int) + 1 + 1 + 1) = false := by simp
        have e5 : ((m : Int) + 1 + 1 + 1 + 1 != (m : Int) + 1 + 1 + 1 + 1) = false := by simp
        have HT : Hid (m + 5 = k0 + 5 * (k + 1)) := by show _ = _; omega
        have HQ : Hid (∀ W : World, Below wr.heap.size wr W → W.cell? ⟨g, k * 5 + 1, none⟩ = some (.string T1) ∧ W.cell? ⟨g, k * 5 + 2, none⟩ = some (.bool fl) ∧ W.cell? ⟨g, k * 5 + 3, none⟩ = some (.int .i64 ((m : Int) + 1 + 1 + 1)) ∧ W.cell? ⟨g, k * 5 + 4, none⟩ = some (.int .i64 ((m : Int) + 1 + 1 + 1 + 1))) := fun W hW => ⟨(hW.cell hgw).trans q1, (hW.cell hgw).trans q2, (hW.cell hgw).trans q3, (hW.cell hgw).trans q4⟩
        clear hmo hat hown q2 q3 q4 e3
        go_upto_region 7 with fail
        go_cut [28] (fun s wx => s = .bool false ∧ Below wr.heap.size wr wx)
        case first =>
          go_region_with (go_at_call 70; refine (markText_big (m + 1) _ (by omega) (by omega)).mono ?_; rintro e w1 ⟨rfl, b1⟩; rw [hT1]; obtain ⟨y1, _, _, _⟩ := HQ.out w1 ((Below.refl wr.heap.size wr).drew.trans b1))
          all_goals (go_wp2_with fail; go_meet; exact ⟨rfl, (Below.refl wr.heap.size wr).drew.trans b1⟩)
        case rest =>
        obtain ⟨rfl, b1⟩ := hcut
        obtain ⟨_, y2, y3, y4⟩ := HQ.out wc b1
        have HB1 : Hid _ := hB.out.trans (b1.mono hB.out.size)
        clear q0 q1 HQ hB b1
        go_wp2
        go_roundw
        all_goals first
          | (case rel => (repeat apply Exists.intro); exact ⟨⟨k + 1, m + 5, by omega, by go_num, by go_num, HT, HB1.out⟩, rfl⟩)
          | (case rel => exact ⟨k + 1, m + 5, by omega, by go_num, by go_num, HT, HB1.out⟩)
          | (case measure => simp [intOf]; omega)
      · have hki : ¬ (k : Int) < (n : Int) := by omega
        obtain rfl : k = n := by omega
        go_wp2
        go_ret
        have hmm := hm.out
        exact ⟨by show Ending.returned (.int .i64 (m : Int)) = _; exact ret_int (by omega), hB.out⟩
end Go.Proofs.Ytmkcadnpleijdaa

