/-
  Joined: Join, Parent, EntOf, Look, Stat5.
-/
import Derived.Test.YtbjfihabkpianaaGreatDoorJ07E
namespace Go.Proofs.YtbjfihabkpianaaGreatDoor
section
open Go.RowKit
def strB (l : Str) : ByteArray := ⟨l.toArray⟩
/-- What k names are joined to. -/
def joinTo (zs : List ByteArray) (k : Nat) : Str := ((strs zs).take k).flatMap (fun p => 47 :: p)
theorem joinTo_zero (zs : List ByteArray) : joinTo zs 0 = [] := by simp [joinTo]
theorem joinTo_succ (zs : List ByteArray) (k : Nat) (h : k < zs.length) : joinTo zs (k + 1) = joinTo zs k ++ 47 :: (zs.getD k ⟨#[]⟩).data.toList := by
  unfold joinTo
  have h' : k < (strs zs).length := by rw [strs_length]; exact h
  rw [List.take_succ_eq_append_getElem h', List.flatMap_append]
  have e : (strs zs)[k] = (zs.getD k ⟨#[]⟩).data.toList := by simp [strs, h]
  simp [e]
theorem joinTo_all (zs : List ByteArray) (k : Nat) (h : zs.length ≤ k) : joinTo zs k = (strs zs).flatMap (fun p => 47 :: p) := by
  unfold joinTo
  rw [List.take_of_length_le (by rw [strs_length]; exact h)]
theorem join_none (zs : List ByteArray) (h0 : zs.length ≠ 0) (h : 30 < zs.length ∨ ∃ k, k < zs.length ∧ nameOk (zs.getD k ⟨#[]⟩).data.toList = false) : joinOf (strs zs) = [] := by
  have hne : strs zs ≠ [] := by intro e; apply h0; rw [← strs_length, e]; rfl
  have hg : good (strs zs) = false := by
    rw [Bool.eq_false_iff]
    intro hg
    rcases h with h | ⟨k, hk, h⟩
    · have := good_len hg; rw [strs_length] at this; omega
    · have hm : (zs.getD k ⟨#[]⟩).data.toList ∈ strs zs := by
        have e : zs.getD k ⟨#[]⟩ = zs[k] := by simp [hk]
        rw [e]
        exact List.mem_map.2 ⟨zs[k], List.getElem_mem hk, rfl⟩
      rw [good_all hg _ hm] at h
      simp at h
  rw [joinOf, if_neg hne, hg]
  rfl
theorem join_some (zs : List ByteArray) (h0 : zs.length ≠ 0) (h1 : zs.length ≤ 30) (h : ∀ k, k < zs.length → nameOk (zs.getD k ⟨#[]⟩).data.toList = true) : joinOf (strs zs) = joinTo zs zs.length := by
  have hne : strs zs ≠ [] := by intro e; apply h0; rw [← strs_length, e]; rfl
  have hg : good (strs zs) = true := by
    refine good_of (by rw [strs_length]; exact h1) ?_
    intro z hz
    obtain ⟨y, hy, rfl⟩ := List.mem_map.1 hz
    obtain ⟨k, hk, rfl⟩ := List.getElem_of_mem hy
    have := h k hk
    simpa [hk] using this
  rw [joinOf, if_neg hne, if_pos hg, joinTo_all zs _ (Nat.le_refl _)]
theorem joinTo_len (zs : List ByteArray) (k : Nat) (hk : k ≤ zs.length) (h : ∀ j, j < k → nameOk (zs.getD j ⟨#[]⟩).data.toList = true) : (joinTo zs k).length ≤ 15 * k := by
  induction k with
  | zero => simp [joinTo]
  | succ k ih =>
    rw [joinTo_succ zs k (by omega), List.length_append, List.length_cons]
    have := ih (by omega) (fun j hj => h j (by omega))
    have := nameOk_len (h k (by omega))
    omega
theorem strB_size (l : Str) : (strB l).size = l.length := by rw [Lib.size_eq]; simp [strB]
/-- Texts of at most so many bytes each. -/
def Smalls (zs : List ByteArray) : Prop := ∀ z ∈ zs, z.size ≤ 4000000
theorem Smalls.at {zs : List ByteArray} (h : Smalls zs) {k : Nat} (hk : k < zs.length) : (zs.getD k ⟨#[]⟩).size ≤ 4000000 := by
  have e : zs.getD k ⟨#[]⟩ = zs[k] := by simp [hk]
  rw [e]; exact h _ (List.getElem_mem hk)
theorem app_str (a : Str) (z : ByteArray) : strB a ++ ((⟨#[47]⟩ : ByteArray) ++ z) = strB (a ++ 47 :: z.data.toList) := by
  apply ByteArray.ext
  simp [strB, ByteArray.data_append]
set_option maxHeartbeats 1000000 in
theorem joinI (a : Option Addr) (n cap : Nat) (zs : List ByteArray) (w : World) (hn : zs.length = n) (hs : n ≤ 4000000) (hsm : Smalls zs) (hr : RdS w a zs) :
    Calls Tryz.prog 256 #[.slice a n cap] w fun e w' => e = .returned (.string (strB (joinOf (strs zs)))) ∧ w' = w := by
  by_cases h0 : n = 0
  · subst h0
    obtain rfl : zs = [] := List.length_eq_zero_iff.1 hn
    go_enter Tryz.func256, Tryz.ntmps256
    go_wp2
    go_ret
    exact ⟨rfl, rfl⟩
  · have h0' : ¬ (n : Int) = 0 := by omega
    have h0b : ((n : Int) == 0) = false := by simpa using h0'
    by_cases h30 : 30 < n
    · have h30' : (30 : Int) < (n : Int) := by omega
      have hno : Hid (joinOf (strs zs) = []) := join_none zs (by omega) (.inl (by omega))
      clear hr
      go_enter Tryz.func256, Tryz.ntmps256
      go_wp2
      go_ret
      exact ⟨by rw [hno.out]; rfl, rfl⟩
    · have h30' : ¬ (30 : Int) < (n : Int) := by omega
      obtain ⟨b, off, rfl, hlt, hc⟩ := hr.lt (by intro h; subst h; simp at hn; omega)
      clear hr
      have hn' : Hid (zs.length = n) := hn
      clear hn
      obtain ⟨E, hE⟩ : ∃ E, strB [] = E := ⟨_, rfl⟩
      go_enter Tryz.func256, Tryz.ntmps256
      go_wp2
      go_loop [3, 14] (fun v i => ∃ k : Nat, k ≤ n ∧ i = .int .i64 k ∧ v = .string (strB (joinTo zs k)) ∧ Hid (∀ j, j < k → nameOk (zs.getD j ⟨#[]⟩).data.toList = true)) (fun _ i => n - (intOf i).toNat)
      case atStart => exact ⟨0, Nat.zero_le _, rfl, by rw [joinTo_zero]; rfl, fun j hj => by omega⟩
      case round =>
        obtain ⟨k, hk, rfl, rfl, hall⟩ := hrel
        by_cases hkn : k < n
        · have hkl : k < zs.length := by rw [hn'.out]; exact hkn
          have hki : (k : Int) < (n : Int) := by omega
          have hcx := hc k hkl
          have hzs := hsm.at hkl
          have hsucc := joinTo_succ zs k hkl
          have hnone : nameOk (zs.getD k ⟨#[]⟩).data.toList = false → joinOf (strs zs) = [] := fun h => join_none zs (by omega) (.inr ⟨k, hkl, h⟩)
          have hall' : nameOk (zs.getD k ⟨#[]⟩).data.toList = true → ∀ j, j < k + 1 → nameOk (zs.getD j ⟨#[]⟩).data.toList = true := by
            intro h j hj
            rcases (show j < k ∨ j = k by omega) with hj | rfl
            · exact hall.out j hj
            · exact h
          obtain ⟨z, hz⟩ : ∃ z, zs.getD k ⟨#[]⟩ = z := ⟨_, rfl⟩
          rw [hz] at hcx hzs hsucc hnone hall'
          have hTs : (strB (joinTo zs k)).size ≤ 15 * k := by rw [strB_size]; exact joinTo_len zs k (by omega) hall.out
          have happ := app_str (joinTo zs k) z
          rw [← hsucc] at happ
          obtain ⟨T, hT⟩ : ∃ T, strB (joinTo zs k) = T := ⟨_, rfl⟩
          obtain ⟨T', hT'⟩ : ∃ T', strB (joinTo zs (k + 1)) = T' := ⟨_, rfl⟩
          rw [hT, hT'] at happ
          rw [hT] at hTs ⊢
          have hlim : ¬ 9223372036854775807 < T.size + (1 + z.size) := by omega
          have HA : Hid _ := hall'
          have HN : Hid _ := hnone
          clear hz hsucc hall hall' hnone hT hkl
          go_wp2_with fail
          refine (nameI z w hzs).mono ?_
          rintro e w1 ⟨rfl, hw⟩
          obtain rfl := hw.symm
          cases hnm : nameOk z.data.toList with
          | false =>
            have hno : Hid (joinOf (strs zs) = []) := HN.out hnm
            go_wp2
            go_ret
            exact ⟨by rw [hno.out]; rfl, rfl⟩
          | true =>
            have hal : Hid _ := HA.out hnm
            go_wp2
            go_round
            case rel => exact ⟨k + 1, by omega, by go_num, by rw [hT'], hal⟩
            case measure => simp [intOf]; omega
        · have hki : ¬ (k : Int) < (n : Int) := by omega
          obtain rfl : k = n := by omega
          have hyes : Hid (joinOf (strs zs) = joinTo zs k) := by
            show _ = _
            rw [join_some zs (by rw [hn'.out]; exact h0) (by rw [hn'.out]; omega) (by rw [hn'.out]; exact hall.out), hn'.out]
          go_wp2
          go_ret
          exact ⟨by rw [hyes.out]; rfl, rfl⟩
end

section
open Go.RowKit
theorem OwnS.cap {w : World} {g n cap : Nat} {zs : List ByteArray} (h : OwnS w g n cap zs) : n ≤ cap := by
  rcases h.2 with ⟨h', _⟩ | ⟨g', cap', cur, h', _, _, hle, _⟩
  · simp at h'
  · simp only [Value.slice.injEq, Option.some.injEq, Addr.mk.injEq, and_true, true_and] at h'
    omega
theorem smalls_of_good {zs : List ByteArray} (h : good (strs zs) = true) : Smalls zs := by
  intro z hz
  have := nameOk_len (good_all h z.data.toList (List.mem_map.2 ⟨z, hz, rfl⟩))
  rw [Lib.size_eq]; omega
theorem Smalls.take {zs : List ByteArray} (h : Smalls zs) (k : Nat) : Smalls (zs.take k) := fun z hz => h z (List.mem_of_mem_take hz)
/-- What both ParentOf functions answer. -/
def PaPost (s : ByteArray) (w : World) (e : Ending) (w' : World) : Prop := Below w.heap.size w w' ∧
  e = .returned (.tuple #[.string (strB (parentOf s.data.toList).1), .string (strB (parentOf s.data.toList).2.1), .bool (parentOf s.data.toList).2.2])
theorem pa_none {l : Str} (h : splitOf l = none) : parentOf l = ([], [], false) := by unfold parentOf; rw [h]
theorem pa_nil {l : Str} (h : splitOf l = some []) : parentOf l = ([], [], false) := by unfold parentOf; rw [h]; rfl
theorem pa_some {l : Str} {zs : List ByteArray} (h : splitOf l = some (strs zs)) (h0 : 1 ≤ zs.length) : parentOf l = (joinOf (strs (zs.take (zs.length - 1))), (zs.getD (zs.length - 1) ⟨#[]⟩).data.toList, true) := by
  unfold parentOf
  rw [h]
  have hne : strs zs ≠ [] := by
    intro e
    have h2 : (strs zs).length = 0 := by rw [e]; rfl
    rw [strs_length] at h2
    omega
  simp only [if_neg hne]
  refine Prod.ext ?_ (Prod.ext ?_ rfl)
  · simp [strs, List.dropLast_eq_take, List.map_take]
  · simp only [strs, List.getLastD_eq_getLast?, List.getLast?_eq_getElem?, List.length_map, List.getElem?_map]
    rw [List.getElem?_eq_getElem (by omega)]
    simp [show zs.length - 1 < zs.length by omega]
set_option maxHeartbeats 1000000 in
theorem parentI (s : ByteArray) (w : World) (hs : s.size ≤ 4000000) : Calls Tryz.prog 215 #[.string s] w (PaPost s w) := by
  cases hsp : splitOf s.data.toList with
  | none =>
    have hpa : Hid (parentOf s.data.toList = ([], [], false)) := pa_none hsp
    have hsp' : Hid (splitOf s.data.toList = none) := hsp
    clear hsp
    go_enter Tryz.func215, Tryz.ntmps215
    go_wp2_with fail
    refine (splitI s w hs).mono ?_
    intro e w1 h1
    obtain ⟨hb1, a1, c1, rfl⟩ := h1.no hsp'.out
    clear h1
    go_wp2
    go_ret3
    exact ⟨hb1, by rw [hpa.out]; rfl⟩
  | some ps =>
    obtain ⟨zs, hzs, hz30⟩ := split_strs hsp
    have hsm := smalls_of_good (split_good hzs)
    have hsp' : Hid (splitOf s.data.toList = some (strs zs)) := hzs
    clear hsp
    obtain ⟨n, hn⟩ : ∃ n, zs.length = n := ⟨_, rfl⟩
    by_cases h0 : n = 0
    · subst h0
      obtain rfl : zs = [] := List.length_eq_zero_iff.1 hn
      have hpa : Hid (parentOf s.data.toList = ([], [], false)) := pa_nil hzs
      clear hzs hn
      go_enter Tryz.func215, Tryz.ntmps215
      go_wp2_with fail
      refine (splitI s w hs).mono ?_
      intro e w1 h1
      obtain ⟨hb1, g1, c1, rfl, hg1, ho1⟩ := h1.yes hsp'.out
      clear h1
      go_wp2
      go_ret3
      exact ⟨hb1, by rw [hpa.out]; rfl⟩
    · have hpa0 := pa_some hzs (by omega)
      rw [hn] at hpa0
      have hn' : Hid (zs.length = n) := hn
      have h0' : ¬ (n : Int) = 0 := by omega
      have h0b : ((n : Int) == 0) = false := by simpa using h0'
      obtain ⟨m, hm⟩ : ∃ m, n = m + 1 := ⟨n - 1, by omega⟩
      subst hm
      rw [Nat.add_sub_cancel] at hpa0
      have hm30 : m ≤ 30 := by omega
      obtain ⟨z, hz⟩ : ∃ z, zs.getD m ⟨#[]⟩ = z := ⟨_, rfl⟩
      rw [hz] at hpa0
      have hpa : Hid (parentOf s.data.toList = (joinOf (strs (zs.take m)), z.data.toList, true)) := hpa0
      have hz' : Hid (zs.getD m ⟨#[]⟩ = z) := hz
      clear hzs hpa0 hz
      go_enter Tryz.func215, Tryz.ntmps215
      go_wp2_with fail
      refine (splitI s w hs).mono ?_
      intro e w1 h1
      obtain ⟨hb1, g1, c1, rfl, hg1, ho1⟩ := h1.yes hsp'.out
      clear h1
      rw [hn'.out] at ho1 ⊢
      have hcap := ho1.cap
      have hcx := World.ownsRow.cellAt ho1 m (by omega)
      have hml : m < zs.length := by rw [hn'.out]; omega
      have hzm : zs[m] = z := by have := hz'.out; simpa [hml] using this
      simp only [List.getElem?_map, List.getElem?_eq_getElem hml, Option.map_some, hzm] at hcx
      have c1' : (0 : Int) ≤ (m : Int) := by omega
      have c2' : (m : Int) ≤ (c1 : Int) := by omega
      have c3' : (m : Int) < (m : Int) + 1 := by omega
      have hrd : RdS w1 (some ⟨g1, 0, none⟩) (zs.take m) := ho1.rd.take m
      have hJ : ∀ W : World, RdS W (some ⟨g1, 0, none⟩) (zs.take m) → Calls Tryz.prog 256 #[.slice (some ⟨g1, 0, none⟩) m c1] W fun e w' => e = .returned (.string (strB (joinOf (strs (zs.take m))))) ∧ w' = W := fun W hW => joinI _ m c1 (zs.take m) W (by simp; omega) (by omega) (hsm.take m) hW
      obtain ⟨T, hT⟩ : ∃ T, strB (joinOf (strs (zs.take m))) = T := ⟨_, rfl⟩
      rw [hT] at hJ
      clear hzm hml ho1 hz30 hn
      go_wp2
      go_quiet ((go_at_call 256; refine Calls.quiet_of_same (hJ _ ?_); exact hrd))
      go_wp2
      go_ret3
      refine ⟨below_drewN hb1 _, ?_⟩
      rw [hpa.out, ← hT]
      show _ = Ending.returned (.tuple #[_, .string (strB z.data.toList), _])
      rw [show strB z.data.toList = z from Lib.mk_data z]
      rfl
end

section
open Go.RowKit
/-- The number that the first entry of this name leads to; 0. -/
def entOf (nm : ByteArray) : List (ByteArray × Int) → Int
  | [] => 0
  | q :: r => if q.1 = nm then q.2 else entOf nm r
theorem entOf_drop (nm : ByteArray) (es : List (ByteArray × Int)) (k : Nat) (h : k < es.length) : entOf nm (es.drop k) = if es[k].1 = nm then es[k].2 else entOf nm (es.drop (k + 1)) := by
  rw [List.drop_eq_getElem_cons h, entOf]
theorem bytes_ne {z y : ByteArray} (h : z ≠ y) : (z.toList == y.toList) = false := by
  rw [beq_eq_false_iff_ne]
  intro e
  rw [Lib.toList_data, Lib.toList_data] at e
  apply h
  rw [← Lib.mk_data z, ← Lib.mk_data y, e]
end

section
open Go.RowKit
/-- The first inode of this number. -/
def look (ds : List InoD) (x : Int) : Option InoD := ds.find? fun D => D.ino == x
theorem look_at (rs : List InoR) (x : Int) : look (rs.map InoR.D) x = (firstAt (inos rs) x).map fun p => (rs.getD p inoZ).D := by
  unfold look firstAt inos
  induction rs with
  | nil => rfl
  | cons r rs ih =>
    rw [List.map_cons, List.find?_cons, List.map_cons, List.findIdx?_cons]
    by_cases h : r.D.ino = x
    · simp [h]
    · have hb : (r.D.ino == x) = false := by simpa using h
      simp only [hb]
      rw [ih]
      cases (List.findIdx? (fun z => z == x) (rs.map fun r => r.D.ino)) <;> simp
theorem look_mem {ds : List InoD} {x : Int} {D : InoD} (h : look ds x = some D) : D ∈ ds ∧ D.ino = x := by
  unfold look at h
  exact ⟨List.mem_of_find?_eq_some h, by simpa using List.find?_some h⟩
theorem atD_look (rs : List InoR) (x : Int) : atD rs x = (look (rs.map InoR.D) x).getD inoZ.D := by
  unfold atD
  rw [look_at]
  cases firstAt (inos rs) x <;> rfl
theorem atB_look (rs : List InoR) (x : Int) : atB rs x = (look (rs.map InoR.D) x).isSome := by
  unfold atB
  rw [look_at]
  cases firstAt (inos rs) x <;> rfl
/-- The number that names lead to from a number on, and a code. -/
def walkD (ds : List InoD) (x : Int) : List ByteArray → Int × Int
  | [] => (x, 0)
  | nm :: l => match look ds x with
    | none => (0, 2)
    | some D => if D.kind = 2 then (if entOf nm D.ents = 0 then (0, 2) else walkD ds (entOf nm D.ents) l) else (0, 3)
/-- The same of a path, from the number 1 on. -/
def walkP (ds : List InoD) (s : ByteArray) : Int × Int := match splitOf s.data.toList with
  | none => (0, 1)
  | some l => walkD ds 1 (l.map strB)
theorem strs_strB (zs : List ByteArray) : (strs zs).map strB = zs := by
  induction zs with
  | nil => rfl
  | cons z zs ih =>
    rw [strs, List.map_cons, List.map_cons]
    exact congr (congrArg _ (by unfold strB; apply ByteArray.ext; simp)) ih
theorem walkP_none {ds : List InoD} {s : ByteArray} (h : splitOf s.data.toList = none) : walkP ds s = (0, 1) := by unfold walkP; rw [h]
theorem walkP_some {ds : List InoD} {s : ByteArray} {zs : List ByteArray} (h : splitOf s.data.toList = some (strs zs)) : walkP ds s = walkD ds 1 zs := by unfold walkP; rw [h]; dsimp only; rw [strs_strB]
/-- The inode of a path, and a code. -/
def statD (ds : List InoD) (s : ByteArray) : InoD × Int :=
  if (walkP ds s).2 = 0 then (match look ds (walkP ds s).1 with | none => (inoZ.D, 2) | some D => (D, 0)) else (inoZ.D, (walkP ds s).2)
/-- A table that can be read: how many inodes, none too great. -/
structure TR (w : World) (a : Option Addr) (n : Nat) (rs : List InoR) : Prop where
  len : rs.length = n
  n : n ≤ 1048576
  small : ∀ r ∈ rs, InoSmall r.D
  rd : RdI w a rs
theorem TR.keep {w w' : World} {a : Option Addr} {n : Nat} {rs : List InoR} (h : TR w a n rs) (hb : Below w.heap.size w w') : TR w' a n rs := ⟨h.len, h.n, h.small, h.rd.keep hb⟩
/-- An inode with no lists of its own. -/
def lift (D : InoD) : InoR := ⟨D, none, 0, none, 0, none, 0⟩
theorem lift_map (ds : List InoD) : (ds.map lift).map InoR.D = ds := by
  rw [List.map_map]
  exact (List.map_congr_left fun _ _ => rfl).trans (List.map_id ds)
/-- The table with an inode set, or dropped. -/
def setD (ds : List InoD) (D : InoD) : List InoD := (setR (ds.map lift) (lift D)).map InoR.D
theorem setD_eq {rs : List InoR} {r : InoR} : (setR rs r).map InoR.D = setD (rs.map InoR.D) r.D := setR_D _ _ _ _ (by rw [lift_map]) rfl
def dropD (ds : List InoD) (x : Int) : List InoD := ds.filter fun D => D.ino != x
theorem dropD_eq (rs : List InoR) (x : Int) : (dropR rs x).map InoR.D = dropD (rs.map InoR.D) x := by
  unfold dropR dropD
  rw [List.filter_map]
  rfl
/-- A table is answered: copies, in memory of its own. -/
def TabAt (w : World) (nx : Int) (ds : List InoD) (v : Value) (w' : World) : Prop :=
  ∃ (a : Option Addr) (c : Nat) (js : List InoJ), v = .agg #[.slice a js.length c, .int .i64 nx] ∧ DQA w.heap.size w' (.slice a js.length c) (ds.map lift) js ∧ Below w.heap.size w w'
theorem SetPost.tab {w w' : World} {nx : Int} {ds : List InoR} {e : Ending} (h : SetPost w nx ds e w') : ∃ v, e = .returned v ∧ TabAt w nx (ds.map InoR.D) v w' := by
  obtain ⟨a, c, js, rfl, hq, hb⟩ := h
  exact ⟨_, rfl, a, c, js, rfl, hq.cong (by rw [lift_map]), hb⟩
theorem DropPost.tab {w w' : World} {nx : Int} {ds : List InoR} {e : Ending} (h : DropPost w nx ds e w') : ∃ v, e = .returned v ∧ TabAt w nx (ds.map InoR.D) v w' := by
  obtain ⟨a, c, js, rfl, hq, hb⟩ := h
  exact ⟨_, rfl, a, c, js, rfl, hq.dqa.cong (by rw [lift_map]), hb⟩
/-- What is answered can be read. -/
theorem TabAt.tr {w w' : World} {nx : Int} {ds : List InoD} {v : Value} (h : TabAt w nx ds v w') (hs : ∀ D ∈ ds, InoSmall D) (hl : ds.length ≤ 1048576) : ∃ a n c rs, v = .agg #[.slice a n c, .int .i64 nx] ∧ TR w' a n rs ∧ rs.map InoR.D = ds ∧ Below w.heap.size w w' := by
  obtain ⟨a, c, js, rfl, hq, hb⟩ := h
  have h1 : (js.map InoJ.r).map InoR.D = ds := by rw [hq.ds, lift_map]
  have h2 : js.length = ds.length := by rw [← h1]; simp
  refine ⟨a, js.length, c, js.map InoJ.r, rfl, ⟨by simp, by omega, fun r hr => ?_, hq.rd rfl⟩, h1, hb⟩
  exact hs r.D (by rw [← h1]; exact List.mem_map_of_mem hr)
end

section
open Go.RowKit
theorem statD_bad {ds : List InoD} {s : ByteArray} {i c : Int} (h : walkP ds s = (i, c)) (hc : c ≠ 0) : statD ds s = (inoZ.D, c) := by unfold statD; rw [h]; exact if_neg hc
theorem statD_none {ds : List InoD} {s : ByteArray} {i : Int} (h : walkP ds s = (i, 0)) (hl : look ds i = none) : statD ds s = (inoZ.D, 2) := by
  unfold statD
  rw [h]
  dsimp only
  rw [if_pos rfl, hl]
theorem statD_some {ds : List InoD} {s : ByteArray} {i : Int} {D : InoD} (h : walkP ds s = (i, 0)) (hl : look ds i = some D) : statD ds s = (D, 0) := by
  unfold statD
  rw [h]
  dsimp only
  rw [if_pos rfl, hl]
end
end Go.Proofs.YtbjfihabkpianaaGreatDoor
