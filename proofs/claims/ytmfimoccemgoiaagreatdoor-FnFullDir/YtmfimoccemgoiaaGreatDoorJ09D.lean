/-
  Joined: SplitS, Eqs, Join, Parent, EntOf.
-/
import Derived.Test.YtmfimoccemgoiaaGreatDoorJ08D
namespace Go.Proofs.YtmfimoccemgoiaaGreatDoor
section
open Go.RowKit
theorem OwnS.len {w : World} {g n cap : Nat} {zs : List ByteArray} (h : OwnS w g n cap zs) : zs.length = n := by simpa using h.1
theorem OwnS.lt {w : World} {g n cap : Nat} {zs : List ByteArray} (h : OwnS w g n cap zs) : g < w.heap.size := (World.ownsRow.lt h g rfl).2
theorem OwnS.keep {w w' : World} {g n cap : Nat} {zs : List ByteArray} (h : OwnS w g n cap zs) (hb : Below w.heap.size w w') : OwnS w' g n cap zs := row_below hb h
theorem OwnS.kept {w w' : World} {g n c g2 : Nat} {zs : List ByteArray} (h : OwnS w g n c zs) (hg : w.grownBy w' (some g2)) (hne : g ≠ g2) : OwnS w' g n c zs :=
  World.ownsRow.kept h hg (.inr (by simp [Value.ownBlock, hne]))
theorem OwnS.alloc {w : World} {g n c : Nat} {zs : List ByteArray} (h : OwnS w g n c zs) (o : Obj) : OwnS (w.alloc o) g n c zs := World.ownsRow.alloc h o
/-- The texts zs can be read from the address a on. -/
def RdS (w : World) (a : Option Addr) (zs : List ByteArray) : Prop :=
  zs = [] ∨ ∃ b off, a = some ⟨b, off, none⟩ ∧ ∀ i, i < zs.length → w.cell? ⟨b, off + i, none⟩ = some (.string (zs.getD i ⟨#[]⟩))
theorem RdS.lt {w : World} {a : Option Addr} {zs : List ByteArray} (h : RdS w a zs) (hz : zs ≠ []) : ∃ b off, a = some ⟨b, off, none⟩ ∧ b < w.heap.size ∧ ∀ i, i < zs.length → w.cell? ⟨b, off + i, none⟩ = some (.string (zs.getD i ⟨#[]⟩)) := by
  rcases h with h | ⟨b, off, rfl, hc⟩
  · exact absurd h hz
  · exact ⟨b, off, rfl, World.block_lt_of_cell? w _ (hc 0 (List.length_pos_iff.2 hz)), hc⟩
theorem RdS.keep {w w' : World} {a : Option Addr} {zs : List ByteArray} (h : RdS w a zs) (hb : Below w.heap.size w w') : RdS w' a zs := by
  by_cases hz : zs = []
  · exact .inl hz
  · obtain ⟨b, off, rfl, hlt, hc⟩ := h.lt hz
    refine .inr ⟨b, off, rfl, fun i hi => ?_⟩
    rw [hb.cell (p := ⟨b, off + i, none⟩) hlt]
    exact hc i hi
theorem OwnS.rd {w : World} {g n cap : Nat} {zs : List ByteArray} (h : OwnS w g n cap zs) : RdS w (some ⟨g, 0, none⟩) zs := by
  refine .inr ⟨g, 0, rfl, fun i hi => ?_⟩
  have hn := h.len
  have := World.ownsRow.cellAt h i (by omega)
  rw [Nat.zero_add, this]
  simp [hi]
theorem RdS.take {w : World} {a : Option Addr} {zs : List ByteArray} (h : RdS w a zs) (k : Nat) : RdS w a (zs.take k) := by
  rcases h with h | ⟨b, off, rfl, hc⟩
  · exact .inl (by rw [h]; simp)
  · refine .inr ⟨b, off, rfl, fun i hi => ?_⟩
    simp only [List.length_take] at hi
    rw [hc i (by omega)]
    have : i < k := by omega
    simp [this]
theorem strs_length (zs : List ByteArray) : (strs zs).length = zs.length := by simp [strs]
end

section
open Go.RowKit
theorem drew_drew (w : World) (d n : Nat) : (w.drewN d).drewN n = w.drewN (d + n) := by simp [World.drewN, Nat.add_assoc]
theorem str_ne {z y : ByteArray} (h : z ≠ y) : (z.toList == y.toList) = false := by
  rw [beq_eq_false_iff_ne]
  intro e
  rw [Lib.toList_data, Lib.toList_data] at e
  apply h
  rw [← Lib.mk_data z, ← Lib.mk_data y, e]
theorem list_ne {zs ys : List ByteArray} {k : Nat} (h : zs.getD k ⟨#[]⟩ ≠ ys.getD k ⟨#[]⟩) : zs ≠ ys := by
  rintro rfl; exact h rfl
theorem take_step {zs ys : List ByteArray} {k : Nat} (h1 : k < zs.length) (h2 : k < ys.length) (h : zs.getD k ⟨#[]⟩ = ys.getD k ⟨#[]⟩) (ht : zs.take k = ys.take k) : zs.take (k + 1) = ys.take (k + 1) := by
  rw [List.take_succ_eq_append_getElem h1, List.take_succ_eq_append_getElem h2, ht]
  have e1 : zs.getD k ⟨#[]⟩ = zs[k] := by simp [h1]
  have e2 : ys.getD k ⟨#[]⟩ = ys[k] := by simp [h2]
  rw [← e1, ← e2, h]
set_option maxHeartbeats 800000 in
theorem equal_any (a a' : Option Addr) (n cap cap' : Nat) (zs ys : List ByteArray) (w : World) (hn : zs.length = n) (hm : ys.length = n) (hs : n ≤ 4000000) (hr : RdS w a zs) (hr' : RdS w a' ys) :
    Calls Tryz.prog 261 #[.slice a n cap, .slice a' n cap'] w fun e w' => e = .returned (.bool (decide (zs = ys))) ∧ ∃ d, w' = w.drewN d := by
  by_cases h0 : n = 0
  · subst h0
    obtain rfl : zs = [] := List.length_eq_zero_iff.1 hn
    obtain rfl : ys = [] := List.length_eq_zero_iff.1 hm
    go_enter Tryz.func261, Tryz.ntmps261
    go_wp2
    refine wp_loop_rounds 1 ?_; rw [rounds_succ]
    go_wp2
    go_ret
    exact ⟨rfl, 0, rfl⟩
  · obtain ⟨b, off, rfl, hlt, hc⟩ := hr.lt (by intro h; subst h; simp at hn; omega)
    obtain ⟨b', off', rfl, hlt', hc'⟩ := hr'.lt (by intro h; subst h; simp at hm; omega)
    clear hr hr'
    have hn' : Hid (zs.length = n) := hn
    have hm' : Hid (ys.length = n) := hm
    clear hn hm
    go_enter Tryz.func261, Tryz.ntmps261
    go_wp2
    go_loopw [13] (fun i wr => ∃ k d : Nat, k ≤ n ∧ i = .int .i64 k ∧ wr = w.drewN d ∧ Hid (zs.take k = ys.take k)) (fun i _ => n - (intOf i).toNat)
    case atStart => exact ⟨0, 0, Nat.zero_le _, rfl, rfl, rfl⟩
    case round =>
      obtain ⟨k, d, hk, rfl, rfl, ht⟩ := hrel
      by_cases hkn : k < n
      · have hcx := hc k (by rw [hn'.out]; exact hkn)
        have hcy := hc' k (by rw [hm'.out]; exact hkn)
        have hst := take_step (zs := zs) (ys := ys) (k := k) (by rw [hn'.out]; exact hkn) (by rw [hm'.out]; exact hkn)
        have hno := list_ne (zs := zs) (ys := ys) (k := k)
        obtain ⟨z, hz⟩ : ∃ z, zs.getD k ⟨#[]⟩ = z := ⟨_, rfl⟩
        obtain ⟨y, hy⟩ : ∃ y, ys.getD k ⟨#[]⟩ = y := ⟨_, rfl⟩
        rw [hz] at hcx hst hno
        rw [hy] at hcy hst hno
        clear hz hy
        have hki : (k : Int) < (n : Int) := by omega
        by_cases hzy : z = y
        · have hst' : Hid (zs.take (k + 1) = ys.take (k + 1)) := hst hzy ht.out
          subst hzy
          clear hst hno ht
          go_wp2
          go_quiet (fail)
          go_wp2
          go_roundw
          case rel => exact ⟨k + 1, d + nq, by omega, by go_num, rfl, hst'⟩
          case measure => simp [intOf]; omega
        · have hno' : Hid (decide (zs = ys) = false) := decide_eq_false (hno hzy)
          have hb := str_ne hzy
          clear hst hno ht
          go_wp2
          go_quiet (fail)
          go_wp2
          go_ret
          exact ⟨ret_bool hno'.out.symm, d + nq, drew_drew w d nq⟩
      · have hyes : Hid (decide (zs = ys) = true) := decide_eq_true (by
          have h := ht.out
          rw [List.take_of_length_le (by rw [hn'.out]; omega), List.take_of_length_le (by rw [hm'.out]; omega)] at h
          exact h)
        go_wp2
        go_ret
        exact ⟨ret_bool hyes.out.symm, d, rfl⟩
theorem strs_inj : ∀ {zs ys : List ByteArray}, strs zs = strs ys → zs = ys
  | [], [], _ => rfl
  | [], _ :: _, h => by simp [strs] at h
  | _ :: _, [], h => by simp [strs] at h
  | z :: zs, y :: ys, h => by
    simp only [strs, List.map_cons, List.cons.injEq] at h
    have e : z = y := by rw [← Lib.mk_data z, ← Lib.mk_data y, h.1]
    rw [e, strs_inj h.2]
/-- What SplitPath answers, the answer known. -/
theorem SpPost.no {s : ByteArray} {w w' : World} {e : Ending} (h : SpPost s w e w') (hs : splitOf s.data.toList = none) : Below w.heap.size w w' ∧ ∃ a c, e = .returned (.tuple #[.slice a 0 c, .bool false]) := by
  rcases h.2 with ⟨_, h2⟩ | ⟨zs, g, c, h2, _⟩
  · exact ⟨h.1, h2⟩
  · rw [hs] at h2; cases h2
theorem SpPost.yes {s : ByteArray} {w w' : World} {e : Ending} {zs : List ByteArray} (h : SpPost s w e w') (hs : splitOf s.data.toList = some (strs zs)) : Below w.heap.size w w' ∧ ∃ g c, e = .returned (.tuple #[.slice (some ⟨g, 0, none⟩) zs.length c, .bool true]) ∧ w.heap.size ≤ g ∧ OwnS w' g zs.length c zs := by
  rcases h.2 with ⟨h2, _⟩ | ⟨ys, g, c, h2, h3⟩
  · rw [hs] at h2; cases h2
  · rw [hs, Option.some.injEq] at h2
    obtain rfl := strs_inj h2
    exact ⟨h.1, g, c, h3⟩
theorem split_strs {l : Str} {ps : List Str} (h : splitOf l = some ps) : ∃ zs, splitOf l = some (strs zs) ∧ zs.length ≤ 30 := by
  refine ⟨ps.map (fun p => ⟨p.toArray⟩), ?_, ?_⟩
  · rw [h]
    simp [strs, Function.comp_def]
  · simpa using good_len (split_good h)
end

section
open Go.RowKit
def strB (l : Str) : ByteArray := ⟨l.toArray⟩
/-- What k names are joined to. -/
def joinTo (zs : List ByteArray) (k : Nat) : Str := ((strs zs).take k).flatMap (fun p => 47 :: p)
theorem joinTo_zero (zs : List ByteArray) : joinTo zs 0 = [] := by simp [joinTo]
theorem joinTo_succ (zs : List ByteArray) (k : Nat) (h : k < zs.length) : joinTo zs (k + 1) = joinTo zs k ++ 47 :: (zs.getD k ⟨#[]⟩).data.toList := by
  unfold joinTo
  have h' : k < (strs zs).length := by rw [strs_length]; exact h
  rw [List.take_succ_eq_append_getElem h', List.flatMap_append]
  have e : (strs zs)[k] = (zs.getD k ⟨#[]⟩).data.toList := by simp [strs, h]
  simp [e]
theorem joinTo_all (zs : List ByteArray) (k : Nat) (h : zs.length ≤ k) : joinTo zs k = (strs zs).flatMap (fun p => 47 :: p) := by
  unfold joinTo
  rw [List.take_of_length_le (by rw [strs_length]; exact h)]
theorem join_none (zs : List ByteArray) (h0 : zs.length ≠ 0) (h : 30 < zs.length ∨ ∃ k, k < zs.length ∧ nameOk (zs.getD k ⟨#[]⟩).data.toList = false) : joinOf (strs zs) = [] := by
  have hne : strs zs ≠ [] := by intro e; apply h0; rw [← strs_length, e]; rfl
  have hg : good (strs zs) = false := by
    rw [Bool.eq_false_iff]
    intro hg
    rcases h with h | ⟨k, hk, h⟩
    · have := good_len hg; rw [strs_length] at this; omega
    · have hm : (zs.getD k ⟨#[]⟩).data.toList ∈ strs zs := by
        have e : zs.getD k ⟨#[]⟩ = zs[k] := by simp [hk]
        rw [e]
        exact List.mem_map.2 ⟨zs[k], List.getElem_mem hk, rfl⟩
      rw [good_all hg _ hm] at h
      simp at h
  rw [joinOf, if_neg hne, hg]
  rfl
theorem join_some (zs : List ByteArray) (h0 : zs.length ≠ 0) (h1 : zs.length ≤ 30) (h : ∀ k, k < zs.length → nameOk (zs.getD k ⟨#[]⟩).data.toList = true) : joinOf (strs zs) = joinTo zs zs.length := by
  have hne : strs zs ≠ [] := by intro e; apply h0; rw [← strs_length, e]; rfl
  have hg : good (strs zs) = true := by
    refine good_of (by rw [strs_length]; exact h1) ?_
    intro z hz
    obtain ⟨y, hy, rfl⟩ := List.mem_map.1 hz
    obtain ⟨k, hk, rfl⟩ := List.getElem_of_mem hy
    have := h k hk
    simpa [hk] using this
  rw [joinOf, if_neg hne, if_pos hg, joinTo_all zs _ (Nat.le_refl _)]
theorem joinTo_len (zs : List ByteArray) (k : Nat) (hk : k ≤ zs.length) (h : ∀ j, j < k → nameOk (zs.getD j ⟨#[]⟩).data.toList = true) : (joinTo zs k).length ≤ 15 * k := by
  induction k with
  | zero => simp [joinTo]
  | succ k ih =>
    rw [joinTo_succ zs k (by omega), List.length_append, List.length_cons]
    have := ih (by omega) (fun j hj => h j (by omega))
    have := nameOk_len (h k (by omega))
    omega
theorem strB_size (l : Str) : (strB l).size = l.length := by rw [Lib.size_eq]; simp [strB]
/-- Texts of at most so many bytes each. -/
def Smalls (zs : List ByteArray) : Prop := ∀ z ∈ zs, z.size ≤ 4000000
theorem Smalls.at {zs : List ByteArray} (h : Smalls zs) {k : Nat} (hk : k < zs.length) : (zs.getD k ⟨#[]⟩).size ≤ 4000000 := by
  have e : zs.getD k ⟨#[]⟩ = zs[k] := by simp [hk]
  rw [e]; exact h _ (List.getElem_mem hk)
theorem app_str (a : Str) (z : ByteArray) : strB a ++ ((⟨#[47]⟩ : ByteArray) ++ z) = strB (a ++ 47 :: z.data.toList) := by
  apply ByteArray.ext
  simp [strB, ByteArray.data_append]
set_option maxHeartbeats 1000000 in
theorem joinI (a : Option Addr) (n cap : Nat) (zs : List ByteArray) (w : World) (hn : zs.length = n) (hs : n ≤ 4000000) (hsm : Smalls zs) (hr : RdS w a zs) :
    Calls Tryz.prog 262 #[.slice a n cap] w fun e w' => e = .returned (.string (strB (joinOf (strs zs)))) ∧ w' = w := by
  by_cases h0 : n = 0
  · subst h0
    obtain rfl : zs = [] := List.length_eq_zero_iff.1 hn
    go_enter Tryz.func262, Tryz.ntmps262
    go_wp2
    go_ret
    exact ⟨rfl, rfl⟩
  · have h0' : ¬ (n : Int) = 0 := by omega
    have h0b : ((n : Int) == 0) = false := by simpa using h0'
    by_cases h30 : 30 < n
    · have h30' : (30 : Int) < (n : Int) := by omega
      have hno : Hid (joinOf (strs zs) = []) := join_none zs (by omega) (.inl (by omega))
      clear hr
      go_enter Tryz.func262, Tryz.ntmps262
      go_wp2
      go_ret
      exact ⟨by rw [hno.out]; rfl, rfl⟩
    · have h30' : ¬ (30 : Int) < (n : Int) := by omega
      obtain ⟨b, off, rfl, hlt, hc⟩ := hr.lt (by intro h; subst h; simp at hn; omega)
      clear hr
      have hn' : Hid (zs.length = n) := hn
      clear hn
      obtain ⟨E, hE⟩ : ∃ E, strB [] = E := ⟨_, rfl⟩
      go_enter Tryz.func262, Tryz.ntmps262
      go_wp2
      go_loop [3, 14] (fun v i => ∃ k : Nat, k ≤ n ∧ i = .int .i64 k ∧ v = .string (strB (joinTo zs k)) ∧ Hid (∀ j, j < k → nameOk (zs.getD j ⟨#[]⟩).data.toList = true)) (fun _ i => n - (intOf i).toNat)
      case atStart => exact ⟨0, Nat.zero_le _, rfl, by rw [joinTo_zero]; rfl, fun j hj => by omega⟩
      case round =>
        obtain ⟨k, hk, rfl, rfl, hall⟩ := hrel
        by_cases hkn : k < n
        · have hkl : k < zs.length := by rw [hn'.out]; exact hkn
          have hki : (k : Int) < (n : Int) := by omega
          have hcx := hc k hkl
          have hzs := hsm.at hkl
          have hsucc := joinTo_succ zs k hkl
          have hnone : nameOk (zs.getD k ⟨#[]⟩).data.toList = false → joinOf (strs zs) = [] := fun h => join_none zs (by omega) (.inr ⟨k, hkl, h⟩)
          have hall' : nameOk (zs.getD k ⟨#[]⟩).data.toList = true → ∀ j, j < k + 1 → nameOk (zs.getD j ⟨#[]⟩).data.toList = true := by
            intro h j hj
            rcases (show j < k ∨ j = k by omega) with hj | rfl
            · exact hall.out j hj
            · exact h
          obtain ⟨z, hz⟩ : ∃ z, zs.getD k ⟨#[]⟩ = z := ⟨_, rfl⟩
          rw [hz] at hcx hzs hsucc hnone hall'
          have hTs : (strB (joinTo zs k)).size ≤ 15 * k := by rw [strB_size]; exact joinTo_len zs k (by omega) hall.out
          have happ := app_str (joinTo zs k) z
          rw [← hsucc] at happ
          obtain ⟨T, hT⟩ : ∃ T, strB (joinTo zs k) = T := ⟨_, rfl⟩
          obtain ⟨T', hT'⟩ : ∃ T', strB (joinTo zs (k + 1)) = T' := ⟨_, rfl⟩
          rw [hT, hT'] at happ
          rw [hT] at hTs ⊢
          have hlim : ¬ 9223372036854775807 < T.size + (1 + z.size) := by omega
          have HA : Hid _ := hall'
          have HN : Hid _ := hnone
          clear hz hsucc hall hall' hnone hT hkl
          go_wp2_with fail
          refine (nameI z w hzs).mono ?_
          rintro e w1 ⟨rfl, hw⟩
          obtain rfl := hw.symm
          cases hnm : nameOk z.data.toList with
          | false =>
            have hno : Hid (joinOf (strs zs) = []) := HN.out hnm
            go_wp2
            go_ret
            exact ⟨by rw [hno.out]; rfl, rfl⟩
          | true =>
            have hal : Hid _ := HA.out hnm
            go_wp2
            go_round
            case rel => exact ⟨k + 1, by omega, by go_num, by rw [hT'], hal⟩
            case measure => simp [intOf]; omega
        · have hki : ¬ (k : Int) < (n : Int) := by omega
          obtain rfl : k = n := by omega
          have hyes : Hid (joinOf (strs zs) = joinTo zs k) := by
            show _ = _
            rw [join_some zs (by rw [hn'.out]; exact h0) (by rw [hn'.out]; omega) (by rw [hn'.out]; exact hall.out), hn'.out]
          go_wp2
          go_ret
          exact ⟨by rw [hyes.out]; rfl, rfl⟩
end

section
open Go.RowKit
theorem OwnS.cap {w : World} {g n cap : Nat} {zs : List ByteArray} (h : OwnS w g n cap zs) : n ≤ cap := by
  rcases h.2 with ⟨h', _⟩ | ⟨g', cap', cur, h', _, _, hle, _⟩
  · simp at h'
  · simp only [Value.slice.injEq, Option.some.injEq, Addr.mk.injEq, and_true, true_and] at h'
    omega
theorem smalls_of_good {zs : List ByteArray} (h : good (strs zs) = true) : Smalls zs := by
  intro z hz
  have := nameOk_len (good_all h z.data.toList (List.mem_map.2 ⟨z, hz, rfl⟩))
  rw [Lib.size_eq]; omega
theorem Smalls.take {zs : List ByteArray} (h : Smalls zs) (k : Nat) : Smalls (zs.take k) := fun z hz => h z (List.mem_of_mem_take hz)
/-- What both ParentOf functions answer. -/
def PaPost (s : ByteArray) (w : World) (e : Ending) (w' : World) : Prop := Below w.heap.size w w' ∧
  e = .returned (.tuple #[.string (strB (parentOf s.data.toList).1), .string (strB (parentOf s.data.toList).2.1), .bool (parentOf s.data.toList).2.2])
theorem pa_none {l : Str} (h : splitOf l = none) : parentOf l = ([], [], false) := by unfold parentOf; rw [h]
theorem pa_nil {l : Str} (h : splitOf l = some []) : parentOf l = ([], [], false) := by unfold parentOf; rw [h]; rfl
theorem pa_some {l : Str} {zs : List ByteArray} (h : splitOf l = some (strs zs)) (h0 : 1 ≤ zs.length) : parentOf l = (joinOf (strs (zs.take (zs.length - 1))), (zs.getD (zs.length - 1) ⟨#[]⟩).data.toList, true) := by
  unfold parentOf
  rw [h]
  have hne : strs zs ≠ [] := by
    intro e
    have h2 : (strs zs).length = 0 := by rw [e]; rfl
    rw [strs_length] at h2
    omega
  simp only [if_neg hne]
  refine Prod.ext ?_ (Prod.ext ?_ rfl)
  · simp [strs, List.dropLast_eq_take, List.map_take]
  · simp only [strs, List.getLastD_eq_getLast?, List.getLast?_eq_getElem?, List.length_map, List.getElem?_map]
    rw [List.getElem?_eq_getElem (by omega)]
    simp [show zs.length - 1 < zs.length by omega]
set_option maxHeartbeats 1000000 in
theorem parentI (s : ByteArray) (w : World) (hs : s.size ≤ 4000000) : Calls Tryz.prog 228 #[.string s] w (PaPost s w) := by
  cases hsp : splitOf s.data.toList with
  | none =>
    have hpa : Hid (parentOf s.data.toList = ([], [], false)) := pa_none hsp
    have hsp' : Hid (splitOf s.data.toList = none) := hsp
    clear hsp
    go_enter Tryz.func228, Tryz.ntmps228
    go_wp2_with fail
    refine (splitI s w hs).mono ?_
    intro e w1 h1
    obtain ⟨hb1, a1, c1, rfl⟩ := h1.no hsp'.out
    clear h1
    go_wp2
    go_ret3
    exact ⟨hb1, by rw [hpa.out]; rfl⟩
  | some ps =>
    obtain ⟨zs, hzs, hz30⟩ := split_strs hsp
    have hsm := smalls_of_good (split_good hzs)
    have hsp' : Hid (splitOf s.data.toList = some (strs zs)) := hzs
    clear hsp
    obtain ⟨n, hn⟩ : ∃ n, zs.length = n := ⟨_, rfl⟩
    by_cases h0 : n = 0
    · subst h0
      obtain rfl : zs = [] := List.length_eq_zero_iff.1 hn
      have hpa : Hid (parentOf s.data.toList = ([], [], false)) := pa_nil hzs
      clear hzs hn
      go_enter Tryz.func228, Tryz.ntmps228
      go_wp2_with fail
      refine (splitI s w hs).mono ?_
      intro e w1 h1
      obtain ⟨hb1, g1, c1, rfl, hg1, ho1⟩ := h1.yes hsp'.out
      clear h1
      go_wp2
      go_ret3
      exact ⟨hb1, by rw [hpa.out]; rfl⟩
    · have hpa0 := pa_some hzs (by omega)
      rw [hn] at hpa0
      have hn' : Hid (zs.length = n) := hn
      have h0' : ¬ (n : Int) = 0 := by omega
      have h0b : ((n : Int) == 0) = false := by simpa using h0'
      obtain ⟨m, hm⟩ : ∃ m, n = m + 1 := ⟨n - 1, by omega⟩
      subst hm
      rw [Nat.add_sub_cancel] at hpa0
      have hm30 : m ≤ 30 := by omega
      obtain ⟨z, hz⟩ : ∃ z, zs.getD m ⟨#[]⟩ = z := ⟨_, rfl⟩
      rw [hz] at hpa0
      have hpa : Hid (parentOf s.data.toList = (joinOf (strs (zs.take m)), z.data.toList, true)) := hpa0
      have hz' : Hid (zs.getD m ⟨#[]⟩ = z) := hz
      clear hzs hpa0 hz
      go_enter Tryz.func228, Tryz.ntmps228
      go_wp2_with fail
      refine (splitI s w hs).mono ?_
      intro e w1 h1
      obtain ⟨hb1, g1, c1, rfl, hg1, ho1⟩ := h1.yes hsp'.out
      clear h1
      rw [hn'.out] at ho1 ⊢
      have hcap := ho1.cap
      have hcx := World.ownsRow.cellAt ho1 m (by omega)
      have hml : m < zs.length := by rw [hn'.out]; omega
      have hzm : zs[m] = z := by have := hz'.out; simpa [hml] using this
      simp only [List.getElem?_map, List.getElem?_eq_getElem hml, Option.map_some, hzm] at hcx
      have c1' : (0 : Int) ≤ (m : Int) := by omega
      have c2' : (m : Int) ≤ (c1 : Int) := by omega
      have c3' : (m : Int) < (m : Int) + 1 := by omega
      have hrd : RdS w1 (some ⟨g1, 0, none⟩) (zs.take m) := ho1.rd.take m
      have hJ : ∀ W : World, RdS W (some ⟨g1, 0, none⟩) (zs.take m) → Calls Tryz.prog 262 #[.slice (some ⟨g1, 0, none⟩) m c1] W fun e w' => e = .returned (.string (strB (joinOf (strs (zs.take m))))) ∧ w' = W := fun W hW => joinI _ m c1 (zs.take m) W (by simp; omega) (by omega) (hsm.take m) hW
      obtain ⟨T, hT⟩ : ∃ T, strB (joinOf (strs (zs.take m))) = T := ⟨_, rfl⟩
      rw [hT] at hJ
      clear hzm hml ho1 hz30 hn
      go_wp2
      go_quiet ((go_at_call 262; refine Calls.quiet_of_same (hJ _ ?_); exact hrd))
      go_wp2
      go_ret3
      refine ⟨below_drewN hb1 _, ?_⟩
      rw [hpa.out, ← hT]
      show _ = Ending.returned (.tuple #[_, .string (strB z.data.toList), _])
      rw [show strB z.data.toList = z from Lib.mk_data z]
      rfl
theorem be_left {a b : Str} (h : splitOf a = none) : belowOf a b = false := by unfold belowOf; rw [h]
theorem be_right {a b : Str} (h : splitOf b = none) : belowOf a b = false := by
  unfold belowOf
  rw [h]
  cases splitOf a <;> rfl
theorem be_some {a b : Str} {xs ys : List ByteArray} (h : splitOf a = some (strs xs)) (h' : splitOf b = some (strs ys)) : belowOf a b = (decide (xs.length ≤ ys.length) && decide (xs = ys.take xs.length)) := by
  unfold belowOf
  rw [h, h']
  simp only [strs_length]
  congr 1
  rw [Bool.eq_iff_iff, decide_eq_true_eq, decide_eq_true_eq]
  constructor
  · intro e
    have e2 : strs (ys.take xs.length) = strs xs := by unfold strs; rw [List.map_take]; exact e
    exact (strs_inj e2).symm
  · intro e
    have e2 : strs (ys.take xs.length) = (strs ys).take xs.length := by unfold strs; rw [List.map_take]
    rw [← e2, ← e]
/-- What both Below functions answer. -/
def BePost (a b : ByteArray) (w : World) (e : Ending) (w' : World) : Prop := e = .returned (.bool (belowOf a.data.toList b.data.toList)) ∧ Below w.heap.size w w'
set_option maxHeartbeats 1000000 in
theorem belowI (a b : ByteArray) (w : World) (ha : a.size ≤ 4000000) (hb : b.size ≤ 4000000) : Calls Tryz.prog 227 #[.string a, .string b] w (BePost a b w) := by
  cases hsa : splitOf a.data.toList with
  | none =>
    have hno : Hid (belowOf a.data.toList b.data.toList = false) := be_left hsa
    have hsa' : Hid (splitOf a.data.toList = none) := hsa
    clear hsa
    go_enter Tryz.func227, Tryz.ntmps227
    go_wp2_with fail
    refine (splitI a w ha).mono ?_
    intro e w1 h1
    obtain ⟨hb1, a1, c1, rfl⟩ := h1.no hsa'.out
    clear h1
    go_wp2_with fail
    refine (splitI b w1 hb).mono ?_
    rintro e w2 ⟨hb2, (⟨_, a2, c2, rfl⟩ | ⟨ys, g2, c2, _, rfl, _, _⟩)⟩
    · go_wp2
      go_ret
      exact ⟨ret_bool hno.out.symm, hb1.trans (hb2.mono hb1.size)⟩
    · go_wp2
      go_ret
      exact ⟨ret_bool hno.out.symm, hb1.trans (hb2.mono hb1.size)⟩
  | some ps =>
    obtain ⟨xs, hxs, hx30⟩ := split_strs hsa
    have hsa' : Hid (splitOf a.data.toList = some (strs xs)) := hxs
    clear hsa
    obtain ⟨n, hn⟩ : ∃ n, xs.length = n := ⟨_, rfl⟩
    have hn' : Hid (xs.length = n) := hn
    cases hsb : splitOf b.data.toList with
    | none =>
      have hno : Hid (belowOf a.data.toList b.data.toList = false) := be_right hsb
      have hsb' : Hid (splitOf b.data.toList = none) := hsb
      clear hsb hxs hn hx30
      go_enter Tryz.func227, Tryz.ntmps227
      go_wp2_with fail
      refine (splitI a w ha).mono ?_
      intro e w1 h1
      obtain ⟨hb1, g1, c1, rfl, hg1, ho1⟩ := h1.yes hsa'.out
      clear h1
      rw [hn'.out] at ho1 ⊢
      go_wp2_with fail
      refine (splitI b w1 hb).mono ?_
      intro e w2 h2
      obtain ⟨hb2, a2, c2, rfl⟩ := h2.no hsb'.out
      clear h2
      go_wp2
      go_ret
      exact ⟨ret_bool hno.out.symm, hb1.trans (hb2.mono hb1.size)⟩
    | some qs =>
      obtain ⟨ys, hys, hy30⟩ := split_strs hsb
      have hsb' : Hid (splitOf b.data.toList = some (strs ys)) := hys
      clear hsb
      obtain ⟨m, hm⟩ : ∃ m, ys.length = m := ⟨_, rfl⟩
      have hm' : Hid (ys.length = m) := hm
      have hbe := be_some hxs hys
      rw [hn, hm] at hbe
      have hn30 : n ≤ 30 := by omega
      have hm30 : m ≤ 30 := by omega
      have hbe' : Hid (belowOf a.data.toList b.data.toList = (decide (n ≤ m) && decide (xs = ys.take n))) := hbe
      clear hxs hys hn hm hx30 hy30 hbe
      go_enter Tryz.func227, Tryz.ntmps227
      go_wp2_with fail
      refine (splitI a w ha).mono ?_
      intro e w1 h1
      obtain ⟨hb1, g1, c1, rfl, hg1, ho1⟩ := h1.yes hsa'.out
      clear h1
      rw [hn'.out] at ho1 ⊢
      go_wp2_with fail
      refine (splitI b w1 hb).mono ?_
      intro e w2 h2
      obtain ⟨hb2, g2, c2, rfl, hg2, ho2⟩ := h2.yes hsb'.out
      clear h2
      rw [hm'.out] at ho2 ⊢
      have B2 := hb1.trans (hb2.mono hb1.size)
      have ho12 := ho1.keep hb2
      have hcap := ho2.cap
      by_cases hnm : n ≤ m
      · have hnm' : (n : Int) ≤ (m : Int) := by omega
        have q1 : (0 : Int) ≤ (n : Int) := by omega
        have q2 : (n : Int) ≤ (c2 : Int) := by omega
        have hEq := equal_any (some ⟨g1, 0, none⟩) (some ⟨g2, 0, none⟩) n c1 c2 xs (ys.take n) w2 hn'.out (by simp [hm'.out]; omega) (by omega) ho12.rd (ho2.rd.take n)
        go_wp2_with fail
        refine hEq.mono ?_
        rintro e w3 ⟨rfl, d, rfl⟩
        clear hEq
        obtain ⟨B, hB⟩ : ∃ B, decide (xs = ys.take n) = B := ⟨_, rfl⟩
        have hB' : Hid (belowOf a.data.toList b.data.toList = B) := by show _ = _; rw [hbe'.out, hB, decide_eq_true hnm]; rfl
        rw [hB]
        clear hB
        go_wp2
        go_ret
        exact ⟨ret_bool hB'.out.symm, below_drewN B2 d⟩
      · have hnm' : ¬ (n : Int) ≤ (m : Int) := by omega
        have hno : Hid (belowOf a.data.toList b.data.toList = false) := by show _ = _; rw [hbe'.out, decide_eq_false hnm]; rfl
        go_wp2
        go_ret
        exact ⟨ret_bool hno.out.symm, B2⟩
end

section
open Go.RowKit
/-- The number that the first entry of this name leads to; 0. -/
def entOf (nm : ByteArray) : List (ByteArray × Int) → Int
  | [] => 0
  | q :: r => if q.1 = nm then q.2 else entOf nm r
theorem entOf_drop (nm : ByteArray) (es : List (ByteArray × Int)) (k : Nat) (h : k < es.length) : entOf nm (es.drop k) = if es[k].1 = nm then es[k].2 else entOf nm (es.drop (k + 1)) := by
  rw [List.drop_eq_getElem_cons h, entOf]
theorem bytes_ne {z y : ByteArray} (h : z ≠ y) : (z.toList == y.toList) = false := by
  rw [beq_eq_false_iff_ne]
  intro e
  rw [Lib.toList_data, Lib.toList_data] at e
  apply h
  rw [← Lib.mk_data z, ← Lib.mk_data y, e]
end
end Go.Proofs.YtmfimoccemgoiaaGreatDoor
