/-
  What ParentOf and Below answer, of the program and of the specification, at every text.
-/
import Derived.Test.YtgdloohafkanhaaJoin
namespace Go.Proofs.Ytgdloohafkanhaa
open Go.RowKit

theorem OwnS.cap {w : World} {g n cap : Nat} {zs : List ByteArray} (h : OwnS w g n cap zs) : n ≤ cap := by
  rcases h.2 with ⟨h', _⟩ | ⟨g', cap', cur, h', _, _, hle, _⟩
  · simp at h'
  · simp only [Value.slice.injEq, Option.some.injEq, Addr.mk.injEq, and_true, true_and] at h'
    omega

theorem smalls_of_good {zs : List ByteArray} (h : good (strs zs) = true) : Smalls zs := by
  intro z hz
  have := nameOk_len (good_all h z.data.toList (List.mem_map.2 ⟨z, hz, rfl⟩))
  rw [Lib.size_eq]; omega
theorem Smalls.take {zs : List ByteArray} (h : Smalls zs) (k : Nat) : Smalls (zs.take k) := fun z hz => h z (List.mem_of_mem_take hz)

/-- What both ParentOf functions answer. -/
def PaPost (s : ByteArray) (w : World) (e : Ending) (w' : World) : Prop := Below w.heap.size w w' ∧
  e = .returned (.tuple #[.string (strB (parentOf s.data.toList).1), .string (strB (parentOf s.data.toList).2.1), .bool (parentOf s.data.toList).2.2])

theorem pa_none {l : Str} (h : splitOf l = none) : parentOf l = ([], [], false) := by unfold parentOf; rw [h]
theorem pa_nil {l : Str} (h : splitOf l = some []) : parentOf l = ([], [], false) := by unfold parentOf; rw [h]; rfl
theorem pa_some {l : Str} {zs : List ByteArray} (h : splitOf l = some (strs zs)) (h0 : 1 ≤ zs.length) : parentOf l = (joinOf (strs (zs.take (zs.length - 1))), (zs.getD (zs.length - 1) ⟨#[]⟩).data.toList, true) := by
  unfold parentOf
  rw [h]
  have hne : strs zs ≠ [] := by
    intro e
    have h2 : (strs zs).length = 0 := by rw [e]; rfl
    rw [strs_length] at h2
    omega
  simp only [if_neg hne]
  refine Prod.ext ?_ (Prod.ext ?_ rfl)
  · simp [strs, List.dropLast_eq_take, List.map_take]
  · simp only [strs, List.getLastD_eq_getLast?, List.getLast?_eq_getElem?, List.length_map, List.getElem?_map]
    rw [List.getElem?_eq_getElem (by omega)]
    simp [show zs.length - 1 < zs.length by omega]

set_option maxHeartbeats 1000000 in
theorem parentI (s : ByteArray) (w : World) (hs : s.size ≤ 4000000) : Calls Try.prog 20 #[.string s] w (PaPost s w) := by
  cases hsp : splitOf s.data.toList with
  | none =>
    have hpa : Hid (parentOf s.data.toList = ([], [], false)) := pa_none hsp
    have hsp' : Hid (splitOf s.data.toList = none) := hsp
    clear hsp
    go_enter Try.func20, Try.ntmps20
    go_wp2_with fail
    refine (splitI s w hs).mono ?_
    intro e w1 h1
    obtain ⟨hb1, a1, c1, rfl⟩ := h1.no hsp'.out
    clear h1
    go_wp2
    go_ret3
    exact ⟨hb1, by rw [hpa.out]; rfl⟩
  | some ps =>
    obtain ⟨zs, hzs, hz30⟩ := split_strs hsp
    have hsm := smalls_of_good (split_good hzs)
    have hsp' : Hid (splitOf s.data.toList = some (strs zs)) := hzs
    clear hsp
    obtain ⟨n, hn⟩ : ∃ n, zs.length = n := ⟨_, rfl⟩
    by_cases h0 : n = 0
    · subst h0
      obtain rfl : zs = [] := List.length_eq_zero_iff.1 hn
      have hpa : Hid (parentOf s.data.toList = ([], [], false)) := pa_nil hzs
      clear hzs hn
      go_enter Try.func20, Try.ntmps20
      go_wp2_with fail
      refine (splitI s w hs).mono ?_
      intro e w1 h1
      obtain ⟨hb1, g1, c1, rfl, hg1, ho1⟩ := h1.yes hsp'.out
      clear h1
      go_wp2
      go_ret3
      exact ⟨hb1, by rw [hpa.out]; rfl⟩
    · have hpa0 := pa_some hzs (by omega)
      rw [hn] at hpa0
      have hn' : Hid (zs.length = n) := hn
      have h0' : ¬ (n : Int) = 0 := by omega
      have h0b : ((n : Int) == 0) = false := by simpa using h0'
      obtain ⟨m, hm⟩ : ∃ m, n = m + 1 := ⟨n - 1, by omega⟩
      subst hm
      rw [Nat.add_sub_cancel] at hpa0
      have hm30 : m ≤ 30 := by omega
      obtain ⟨z, hz⟩ : ∃ z, zs.getD m ⟨#[]⟩ = z := ⟨_, rfl⟩
      rw [hz] at hpa0
      have hpa : Hid (parentOf s.data.toList = (joinOf (strs (zs.take m)), z.data.toList, true)) := hpa0
      have hz' : Hid (zs.getD m ⟨#[]⟩ = z) := hz
      clear hzs hpa0 hz
      go_enter Try.func20, Try.ntmps20
      go_wp2_with fail
      refine (splitI s w hs).mono ?_
      intro e w1 h1
      obtain ⟨hb1, g1, c1, rfl, hg1, ho1⟩ := h1.yes hsp'.out
      clear h1
      rw [hn'.out] at ho1 ⊢
      have hcap := ho1.cap
      have hcx := World.ownsRow.cellAt ho1 m (by omega)
      have hml : m < zs.length := by rw [hn'.out]; omega
      have hzm : zs[m] = z := by have := hz'.out; simpa [hml] using this
      simp only [List.getElem?_map, List.getElem?_eq_getElem hml, Option.map_some, hzm] at hcx
      have c1' : (0 : Int) ≤ (m : Int) := by omega
      have c2' : (m : Int) ≤ (c1 : Int) := by omega
      have c3' : (m : Int) < (m : Int) + 1 := by omega
      have hrd : RdS w1 (some ⟨g1, 0, none⟩) (zs.take m) := ho1.rd.take m
      have hJ : ∀ W : World, RdS W (some ⟨g1, 0, none⟩) (zs.take m) → Calls Try.prog 13 #[.slice (some ⟨g1, 0, none⟩) m c1] W fun e w' => e = .returned (.string (strB (joinOf (strs (zs.take m))))) ∧ w' = W := fun W hW => joinI _ m c1 (zs.take m) W (by simp; omega) (by omega) (hsm.take m) hW
      obtain ⟨T, hT⟩ : ∃ T, strB (joinOf (strs (zs.take m))) = T := ⟨_, rfl⟩
      rw [hT] at hJ
      clear hzm hml ho1 hz30 hn
      go_wp2
      go_quiet ((go_at_call 13; refine Calls.quiet_of_same (hJ _ ?_); exact hrd))
      go_wp2
      go_ret3
      refine ⟨below_drewN hb1 _, ?_⟩
      rw [hpa.out, ← hT]
      show _ = Ending.returned (.tuple #[_, .string (strB z.data.toList), _])
      rw [show strB z.data.toList = z from Lib.mk_data z]
      rfl
set_option maxHeartbeats 1000000 in
theorem parentS (s : ByteArray) (w : World) (hs : s.size ≤ 4000000) : Calls Try.prog 21 #[.string s] w (PaPost s w) := by
  cases hsp : splitOf s.data.toList with
  | none =>
    have hpa : Hid (parentOf s.data.toList = ([], [], false)) := pa_none hsp
    have hsp' : Hid (splitOf s.data.toList = none) := hsp
    clear hsp
    go_enter Try.func21, Try.ntmps21
    go_wp2_with fail
    refine (splitS s w hs).mono ?_
    intro e w1 h1
    obtain ⟨hb1, a1, c1, rfl⟩ := h1.no hsp'.out
    clear h1
    go_wp2
    go_ret3
    exact ⟨hb1, by rw [hpa.out]; rfl⟩
  | some ps =>
    obtain ⟨zs, hzs, hz30⟩ := split_strs hsp
    have hsm := smalls_of_good (split_good hzs)
    have hsp' : Hid (splitOf s.data.toList = some (strs zs)) := hzs
    clear hsp
    obtain ⟨n, hn⟩ : ∃ n, zs.length = n := ⟨_, rfl⟩
    by_cases h0 : n = 0
    · subst h0
      obtain rfl : zs = [] := List.length_eq_zero_iff.1 hn
      have hpa : Hid (parentOf s.data.toList = ([], [], false)) := pa_nil hzs
      clear hzs hn
      go_enter Try.func21, Try.ntmps21
      go_wp2_with fail
      refine (splitS s w hs).mono ?_
      intro e w1 h1
      obtain ⟨hb1, g1, c1, rfl, hg1, ho1⟩ := h1.yes hsp'.out
      clear h1
      go_wp2
      go_ret3
      exact ⟨hb1, by rw [hpa.out]; rfl⟩
    · have hpa0 := pa_some hzs (by omega)
      rw [hn] at hpa0
      have hn' : Hid (zs.length = n) := hn
      have h0' : ¬ (n : Int) = 0 := by omega
      have h0b : ((n : Int) == 0) = false := by simpa using h0'
      obtain ⟨m, hm⟩ : ∃ m, n = m + 1 := ⟨n - 1, by omega⟩
      subst hm
      rw [Nat.add_sub_cancel] at hpa0
      have hm30 : m ≤ 30 := by omega
      obtain ⟨z, hz⟩ : ∃ z, zs.getD m ⟨#[]⟩ = z := ⟨_, rfl⟩
      rw [hz] at hpa0
      have hpa : Hid (parentOf s.data.toList = (joinOf (strs (zs.take m)), z.data.toList, true)) := hpa0
      have hz' : Hid (zs.getD m ⟨#[]⟩ = z) := hz
      clear hzs hpa0 hz
      go_enter Try.func21, Try.ntmps21
      go_wp2_with fail
      refine (splitS s w hs).mono ?_
      intro e w1 h1
      obtain ⟨hb1, g1, c1, rfl, hg1, ho1⟩ := h1.yes hsp'.out
      clear h1
      rw [hn'.out] at ho1 ⊢
      have hcap := ho1.cap
      have hcx := World.ownsRow.cellAt ho1 m (by omega)
      have hml : m < zs.length := by rw [hn'.out]; omega
      have hzm : zs[m] = z := by have := hz'.out; simpa [hml] using this
      simp only [List.getElem?_map, List.getElem?_eq_getElem hml, Option.map_some, hzm] at hcx
      have c1' : (0 : Int) ≤ (m : Int) := by omega
      have c2' : (m : Int) ≤ (c1 : Int) := by omega
      have c3' : (m : Int) < (m : Int) + 1 := by omega
      have hrd : RdS w1 (some ⟨g1, 0, none⟩) (zs.take m) := ho1.rd.take m
      have hJ : ∀ W : World, RdS W (some ⟨g1, 0, none⟩) (zs.take m) → Calls Try.prog 17 #[.slice (some ⟨g1, 0, none⟩) m c1] W fun e w' => e = .returned (.string (strB (joinOf (strs (zs.take m))))) ∧ w' = W := fun W hW => joinS _ m c1 (zs.take m) W (by simp; omega) (by omega) (hsm.take m) hW
      obtain ⟨T, hT⟩ : ∃ T, strB (joinOf (strs (zs.take m))) = T := ⟨_, rfl⟩
      rw [hT] at hJ
      clear hzm hml ho1 hz30 hn
      go_wp2
      go_quiet ((go_at_call 17; refine Calls.quiet_of_same (hJ _ ?_); exact hrd))
      go_wp2
      go_ret3
      refine ⟨below_drewN hb1 _, ?_⟩
      rw [hpa.out, ← hT]
      show _ = Ending.returned (.tuple #[_, .string (strB z.data.toList), _])
      rw [show strB z.data.toList = z from Lib.mk_data z]
      rfl

theorem be_left {a b : Str} (h : splitOf a = none) : belowOf a b = false := by unfold belowOf; rw [h]
theorem be_right {a b : Str} (h : splitOf b = none) : belowOf a b = false := by
  unfold belowOf
  rw [h]
  cases splitOf a <;> rfl
theorem be_some {a b : Str} {xs ys : List ByteArray} (h : splitOf a = some (strs xs)) (h' : splitOf b = some (strs ys)) : belowOf a b = (decide (xs.length ≤ ys.length) && decide (xs = ys.take xs.length)) := by
  unfold belowOf
  rw [h, h']
  simp only [strs_length]
  congr 1
  rw [Bool.eq_iff_iff, decide_eq_true_eq, decide_eq_true_eq]
  constructor
  · intro e
    have e2 : strs (ys.take xs.length) = strs xs := by unfold strs; rw [List.map_take]; exact e
    exact (strs_inj e2).symm
  · intro e
    have e2 : strs (ys.take xs.length) = (strs ys).take xs.length := by unfold strs; rw [List.map_take]
    rw [← e2, ← e]

/-- What both Below functions answer. -/
def BePost (a b : ByteArray) (w : World) (e : Ending) (w' : World) : Prop := e = .returned (.bool (belowOf a.data.toList b.data.toList)) ∧ Below w.heap.size w w'

set_option maxHeartbeats 1000000 in
theorem belowI (a b : ByteArray) (w : World) (ha : a.size ≤ 4000000) (hb : b.size ≤ 4000000) : Calls Try.prog 23 #[.string a, .string b] w (BePost a b w) := by
  cases hsa : splitOf a.data.toList with
  | none =>
    have hno : Hid (belowOf a.data.toList b.data.toList = false) := be_left hsa
    have hsa' : Hid (splitOf a.data.toList = none) := hsa
    clear hsa
    go_enter Try.func23, Try.ntmps23
    go_wp2_with fail
    refine (splitI a w ha).mono ?_
    intro e w1 h1
    obtain ⟨hb1, a1, c1, rfl⟩ := h1.no hsa'.out
    clear h1
    go_wp2_with fail
    refine (splitI b w1 hb).mono ?_
    rintro e w2 ⟨hb2, (⟨_, a2, c2, rfl⟩ | ⟨ys, g2, c2, _, rfl, _, _⟩)⟩
    · go_wp2
      go_ret
      exact ⟨ret_bool hno.out.symm, hb1.trans (hb2.mono hb1.size)⟩
    · go_wp2
      go_ret
      exact ⟨ret_bool hno.out.symm, hb1.trans (hb2.mono hb1.size)⟩
  | some ps =>
    obtain ⟨xs, hxs, hx30⟩ := split_strs hsa
    have hsa' : Hid (splitOf a.data.toList = some (strs xs)) := hxs
    clear hsa
    obtain ⟨n, hn⟩ : ∃ n, xs.length = n := ⟨_, rfl⟩
    have hn' : Hid (xs.length = n) := hn
    cases hsb : splitOf b.data.toList with
    | none =>
      have hno : Hid (belowOf a.data.toList b.data.toList = false) := be_right hsb
      have hsb' : Hid (splitOf b.data.toList = none) := hsb
      clear hsb hxs hn hx30
      go_enter Try.func23, Try.ntmps23
      go_wp2_with fail
      refine (splitI a w ha).mono ?_
      intro e w1 h1
      obtain ⟨hb1, g1, c1, rfl, hg1, ho1⟩ := h1.yes hsa'.out
      clear h1
      rw [hn'.out] at ho1 ⊢
      go_wp2_with fail
      refine (splitI b w1 hb).mono ?_
      intro e w2 h2
      obtain ⟨hb2, a2, c2, rfl⟩ := h2.no hsb'.out
      clear h2
      go_wp2
      go_ret
      exact ⟨ret_bool hno.out.symm, hb1.trans (hb2.mono hb1.size)⟩
    | some qs =>
      obtain ⟨ys, hys, hy30⟩ := split_strs hsb
      have hsb' : Hid (splitOf b.data.toList = some (strs ys)) := hys
      clear hsb
      obtain ⟨m, hm⟩ : ∃ m, ys.length = m := ⟨_, rfl⟩
      have hm' : Hid (ys.length = m) := hm
      have hbe := be_some hxs hys
      rw [hn, hm] at hbe
      have hn30 : n ≤ 30 := by omega
      have hm30 : m ≤ 30 := by omega
      have hbe' : Hid (belowOf a.data.toList b.data.toList = (decide (n ≤ m) && decide (xs = ys.take n))) := hbe
      clear hxs hys hn hm hx30 hy30 hbe
      go_enter Try.func23, Try.ntmps23
      go_wp2_with fail
      refine (splitI a w ha).mono ?_
      intro e w1 h1
      obtain ⟨hb1, g1, c1, rfl, hg1, ho1⟩ := h1.yes hsa'.out
      clear h1
      rw [hn'.out] at ho1 ⊢
      go_wp2_with fail
      refine (splitI b w1 hb).mono ?_
      intro e w2 h2
      obtain ⟨hb2, g2, c2, rfl, hg2, ho2⟩ := h2.yes hsb'.out
      clear h2
      rw [hm'.out] at ho2 ⊢
      have B2 := hb1.trans (hb2.mono hb1.size)
      have ho12 := ho1.keep hb2
      have hcap := ho2.cap
      by_cases hnm : n ≤ m
      · have hnm' : (n : Int) ≤ (m : Int) := by omega
        have q1 : (0 : Int) ≤ (n : Int) := by omega
        have q2 : (n : Int) ≤ (c2 : Int) := by omega
        have hEq := equal_any (some ⟨g1, 0, none⟩) (some ⟨g2, 0, none⟩) n c1 c2 xs (ys.take n) w2 hn'.out (by simp [hm'.out]; omega) (by omega) ho12.rd (ho2.rd.take n)
        go_wp2_with fail
        refine hEq.mono ?_
        rintro e w3 ⟨rfl, d, rfl⟩
        clear hEq
        obtain ⟨B, hB⟩ : ∃ B, decide (xs = ys.take n) = B := ⟨_, rfl⟩
        have hB' : Hid (belowOf a.data.toList b.data.toList = B) := by show _ = _; rw [hbe'.out, hB, decide_eq_true hnm]; rfl
        rw [hB]
        clear hB
        go_wp2
        go_ret
        exact ⟨ret_bool hB'.out.symm, below_drewN B2 d⟩
      · have hnm' : ¬ (n : Int) ≤ (m : Int) := by omega
        have hno : Hid (belowOf a.data.toList b.data.toList = false) := by show _ = _; rw [hbe'.out, decide_eq_false hnm]; rfl
        go_wp2
        go_ret
        exact ⟨ret_bool hno.out.symm, B2⟩
set_option maxHeartbeats 1000000 in
theorem belowS (a b : ByteArray) (w : World) (ha : a.size ≤ 4000000) (hb : b.size ≤ 4000000) : Calls Try.prog 25 #[.string a, .string b] w (BePost a b w) := by
  cases hsa : splitOf a.data.toList with
  | none =>
    have hno : Hid (belowOf a.data.toList b.data.toList = false) := be_left hsa
    have hsa' : Hid (splitOf a.data.toList = none) := hsa
    clear hsa
    go_enter Try.func25, Try.ntmps25
    go_wp2_with fail
    refine (splitS a w ha).mono ?_
    intro e w1 h1
    obtain ⟨hb1, a1, c1, rfl⟩ := h1.no hsa'.out
    clear h1
    go_wp2_with fail
    refine (splitS b w1 hb).mono ?_
    rintro e w2 ⟨hb2, (⟨_, a2, c2, rfl⟩ | ⟨ys, g2, c2, _, rfl, _, _⟩)⟩
    · go_wp2
      go_ret
      exact ⟨ret_bool hno.out.symm, hb1.trans (hb2.mono hb1.size)⟩
    · go_wp2
      go_ret
      exact ⟨ret_bool hno.out.symm, hb1.trans (hb2.mono hb1.size)⟩
  | some ps =>
    obtain ⟨xs, hxs, hx30⟩ := split_strs hsa
    have hsa' : Hid (splitOf a.data.toList = some (strs xs)) := hxs
    clear hsa
    obtain ⟨n, hn⟩ : ∃ n, xs.length = n := ⟨_, rfl⟩
    have hn' : Hid (xs.length = n) := hn
    cases hsb : splitOf b.data.toList with
    | none =>
      have hno : Hid (belowOf a.data.toList b.data.toList = false) := be_right hsb
      have hsb' : Hid (splitOf b.data.toList = none) := hsb
      clear hsb hxs hn hx30
      go_enter Try.func25, Try.ntmps25
      go_wp2_with fail
      refine (splitS a w ha).mono ?_
      intro e w1 h1
      obtain ⟨hb1, g1, c1, rfl, hg1, ho1⟩ := h1.yes hsa'.out
      clear h1
      rw [hn'.out] at ho1 ⊢
      go_wp2_with fail
      refine (splitS b w1 hb).mono ?_
      intro e w2 h2
      obtain ⟨hb2, a2, c2, rfl⟩ := h2.no hsb'.out
      clear h2
      go_wp2
      go_ret
      exact ⟨ret_bool hno.out.symm, hb1.trans (hb2.mono hb1.size)⟩
    | some qs =>
      obtain ⟨ys, hys, hy30⟩ := split_strs hsb
      have hsb' : Hid (splitOf b.data.toList = some (strs ys)) := hys
      clear hsb
      obtain ⟨m, hm⟩ : ∃ m, ys.length = m := ⟨_, rfl⟩
      have hm' : Hid (ys.length = m) := hm
      have hbe := be_some hxs hys
      rw [hn, hm] at hbe
      have hn30 : n ≤ 30 := by omega
      have hm30 : m ≤ 30 := by omega
      have hbe' : Hid (belowOf a.data.toList b.data.toList = (decide (n ≤ m) && decide (xs = ys.take n))) := hbe
      clear hxs hys hn hm hx30 hy30 hbe
      go_enter Try.func25, Try.ntmps25
      go_wp2_with fail
      refine (splitS a w ha).mono ?_
      intro e w1 h1
      obtain ⟨hb1, g1, c1, rfl, hg1, ho1⟩ := h1.yes hsa'.out
      clear h1
      rw [hn'.out] at ho1 ⊢
      go_wp2_with fail
      refine (splitS b w1 hb).mono ?_
      intro e w2 h2
      obtain ⟨hb2, g2, c2, rfl, hg2, ho2⟩ := h2.yes hsb'.out
      clear h2
      rw [hm'.out] at ho2 ⊢
      have B2 := hb1.trans (hb2.mono hb1.size)
      have ho12 := ho1.keep hb2
      by_cases hnm : n ≤ m
      · have hnm' : (n : Int) ≤ (m : Int) := by omega
        have hyes0 : Hid (xs = ys.take n → belowOf a.data.toList b.data.toList = true) := by intro h; rw [hbe'.out, decide_eq_true hnm, decide_eq_true h]; rfl
        have hno0 : Hid (xs ≠ ys.take n → belowOf a.data.toList b.data.toList = false) := by intro h; rw [hbe'.out, decide_eq_true hnm, decide_eq_false h]; rfl
        clear hbe' hsa' hsb'
        go_wp2
        go_loopw [9] (fun i wr => ∃ k d : Nat, k ≤ n ∧ i = .int .i64 k ∧ wr = w2.drewN d ∧ Hid (xs.take k = (ys.take n).take k)) (fun i _ => n - (intOf i).toNat)
        case atStart => exact ⟨0, 0, Nat.zero_le _, rfl, rfl, rfl⟩
        case round =>
          obtain ⟨k, d, hk, rfl, rfl, ht⟩ := hrel
          by_cases hkn : k < n
          · have hkx : k < xs.length := by rw [hn'.out]; exact hkn
            have hky : k < (ys.take n).length := by simp [hm'.out]; omega
            have hcx := World.ownsRow.cellAt ho12 k (by omega)
            have hcy := World.ownsRow.cellAt ho2 k (by omega)
            have hky' : k < ys.length := by rw [hm'.out]; omega
            simp only [List.getElem?_map, List.getElem?_eq_getElem hkx, Option.map_some] at hcx
            simp only [List.getElem?_map, List.getElem?_eq_getElem hky', Option.map_some] at hcy
            have hst := take_step (zs := xs) (ys := ys.take n) (k := k) hkx hky
            have hno := list_ne (zs := xs) (ys := ys.take n) (k := k)
            have ez : xs.getD k ⟨#[]⟩ = xs[k] := by simp [hkx]
            have ey : (ys.take n).getD k ⟨#[]⟩ = ys[k] := by simp [hkn, hky']
            rw [ez, ey] at hst hno
            obtain ⟨z, hz⟩ : ∃ z, xs[k] = z := ⟨_, rfl⟩
            obtain ⟨y, hy⟩ : ∃ y, ys[k] = y := ⟨_, rfl⟩
            rw [hz] at hcx hst hno
            rw [hy] at hcy hst hno
            clear hz hy ez ey
            have hki : (k : Int) < (n : Int) := by omega
            have hkm : (k : Int) < (m : Int) := by omega
            by_cases hzy : z = y
            · have hst' : Hid (xs.take (k + 1) = (ys.take n).take (k + 1)) := hst hzy ht.out
              subst hzy
              clear hst hno ht hkx hky hky'
              go_wp2
              go_quiet (fail)
              go_wp2
              go_roundw
              case rel => exact ⟨k + 1, d + nq, by omega, by go_num, rfl, hst'⟩
              case measure => simp [intOf]; omega
            · have hno' : Hid (belowOf a.data.toList b.data.toList = false) := hno0.out (hno hzy)
              have hbz := bytes_ne hzy
              clear hst hno ht hkx hky hky'
              go_wp2
              go_quiet (fail)
              go_wp2
              go_ret
              exact ⟨ret_bool hno'.out.symm, by rw [drew_drew]; exact below_drewN B2 _⟩
          · have hki : ¬ (k : Int) < (n : Int) := by omega
            have hyes : Hid (belowOf a.data.toList b.data.toList = true) := hyes0.out (by
              have h := ht.out
              rw [List.take_of_length_le (by rw [hn'.out]; omega), List.take_of_length_le (by simp; omega)] at h
              exact h)
            go_wp2
            go_ret
            exact ⟨ret_bool hyes.out.symm, below_drewN B2 d⟩
      · have hnm' : ¬ (n : Int) ≤ (m : Int) := by omega
        have hno : Hid (belowOf a.data.toList b.data.toList = false) := by show _ = _; rw [hbe'.out, decide_eq_false hnm]; rfl
        go_wp2
        go_ret
        exact ⟨ret_bool hno.out.symm, B2⟩
end Go.Proofs.Ytgdloohafkanhaa
