/-
  What the specification's l7Sort and PathsOf answer.
-/
import Derived.Test.YtnadeelnjhollaaGreatREV
namespace Go.Proofs.YtnadeelnjhollaaGreat
open Go.RowKit
def sV (zs : List ByteArray) : List Value := zs.map Value.string
theorem sV_len (zs : List ByteArray) : (sV zs).length = zs.length := by simp [sV]
theorem sV_at {zs : List ByteArray} {k : Nat} {z : ByteArray} (h : zs[k]? = some z) : (sV zs)[k]? = some (.string z) := by simp [sV, h]
theorem sV_one (zs : List ByteArray) : ∀ u ∈ sV zs, u.oneCell' = true := fun u hu => by obtain ⟨z, _, rfl⟩ := List.mem_map.1 hu; rfl
theorem sortS_snoc (l : List ByteArray) (z : ByteArray) : sortS (l ++ [z]) = insBy (gtS z) (sortS l) z := by
  unfold sortS
  rw [List.foldl_append]
  rfl
theorem sortS_len (l : List ByteArray) : (sortS l).length = l.length := by
  have h : ∀ (l o : List ByteArray), (l.foldl (fun o z => insBy (gtS z) o z) o).length = o.length + l.length := by
    intro l
    induction l with
    | nil => intro o; rfl
    | cons z l ih => intro o; rw [List.foldl_cons, ih, insBy_len, List.length_cons]; omega
  have := h l []
  simpa [sortS] using this
set_option maxRecDepth 100000 in
set_option maxHeartbeats 4000000 in
theorem l7SortS (a : Option Addr) (n cap : Nat) (zs : List ByteArray) (w : World) (hn : zs.length = n) (hs : n ≤ 4000000) (hr : RdV w a (sV zs)) :
    Calls Tryz.prog 23 #[.slice a n cap] w fun e w' => ∃ g c, e = .returned (.slice (some ⟨g, 0, none⟩) n c) ∧ w'.ownsRow w.heap.size 9 1 (.slice (some ⟨g, 0, none⟩) n c) n (sV (sortS zs)) ∧ Below w.heap.size w w' := by
  have hn' : Hid (zs.length = n) := hn
  obtain ⟨i0, hi, hz0, hz1, hz2⟩ := info_parts Tryz.info9
  have hfr := fun ty => fresh_vals (w.alloc (.cells #[] 9)) w.heap.size w.heap.size 26 9 i0 (.string ⟨#[]⟩) 16 Tryz.underlying26 hi hz0 hz1 hz2 rfl (by omega) a n cap (sV zs) (by rw [sV_len, hn]) (by omega) (sV_one zs) (Nat.le_refl _) (empty_row w w.heap.size 9 1 (Nat.le_refl _)) (hr.keep ((Below.refl _ w).alloc (Nat.le_refl _) _)) ty
  have BA : Below w.heap.size w (w.alloc (.cells #[] 9)) := (Below.refl _ w).alloc (Nat.le_refl _) _
  have HF : Hid _ := hfr
  clear hn hr hfr
  go_enter Tryz.func23, Tryz.ntmps23
  go_wp2_with (at_builtin; refine wpList_fresh _ rfl (.tmp 7) (.tmp 8) 26 rfl w.heap.size w.heap.size a n cap 9 1 (sV zs) rfl rfl HF.out ?_; intro g1 c1 W1 o1 hg1 hl1 hb1)
  have hbW : Below w.heap.size w W1 := BA.trans (hb1.mono BA.size)
  clear HF BA hb1 hi hz0 hz1 hz2
  have o1' : W1.ownsRow w.heap.size 9 1 (.slice (some ⟨g1, 0, none⟩) n c1) n (sV (sortS (zs.take 1) ++ zs.drop 1)) := by
    have e : sortS (zs.take 1) ++ zs.drop 1 = zs := by
      cases zs with
      | nil => rfl
      | cons z l => rfl
    rw [e]
    exact o1
  clear o1
  by_cases hn0 : n = 0
  · subst hn0
    have e : zs = [] := List.length_eq_zero_iff.1 hn'.out
    subst e
    have HD : Hid _ := And.intro o1' hbW
    clear o1' hbW
    go_wp2
    refine wp_loop_rounds 1 ?_; rw [rounds_succ]
    go_wp2
    go_ret
    first | exact ⟨g1, c1, rfl, HD.out⟩ | exact ⟨_, ⟨_, rfl⟩, HD.out⟩
  · go_wp2
    go_loopw [4] (fun i wr => ∃ k : Nat, 1 ≤ k ∧ k ≤ n ∧ i = .int .i64 k ∧ wr.ownsRow w.heap.size 9 1 (.slice (some ⟨g1, 0, none⟩) n c1) n (sV (sortS (zs.take k) ++ zs.drop k)) ∧ Below w.heap.size w wr) (fun i _ => n - (intOf i).toNat)
    case atStart => exact ⟨1, Nat.le_refl _, by omega, rfl, o1', hbW⟩
    case round =>
      obtain ⟨k, hk1, hk, rfl, ho, hb⟩ := hrel
      clear o1' hbW
      by_cases hkn : k < n
      · have hki : (k : Int) < (n : Int) := by omega
        have hk0 : (0 : Int) ≤ (k : Int) := by omega
        have hkl : k < zs.length := by rw [hn'.out]; exact hkn
        obtain ⟨S, hS⟩ : ∃ S, sortS (zs.take k) = S := ⟨_, rfl⟩
        have hSl : Hid (S.length = k) := by show _ = _; rw [← hS, sortS_len]; simp; omega
        obtain ⟨x, hx⟩ : ∃ x, zs[k]? = some x := ⟨_, List.getElem?_eq_getElem hkl⟩
        have hxe : zs.drop k = x :: zs.drop (k + 1) := by
          rw [List.drop_eq_getElem_cons hkl, (List.getElem?_eq_some_iff.1 hx).2]
        obtain ⟨T, hT⟩ : ∃ T, zs.drop (k + 1) = T := ⟨_, rfl⟩
        rw [hT] at hxe
        rw [hS, hxe] at ho
        have hck := World.ownsRow.cellAt ho k (by omega)
        rw [sV_at (z := x) (by rw [List.getElem?_append_right (by rw [hSl.out]; omega), hSl.out, Nat.sub_self]; rfl)] at hck
        have hnx : Hid (sortS (zs.take (k + 1)) ++ zs.drop (k + 1) = insBy (gtS x) S x ++ T) := by
          show _ = _
          rw [List.take_add_one, hx, hT, ← hS]
          show sortS (zs.take k ++ [x]) ++ T = _
          rw [sortS_snoc]
        have hTl : Hid (k + 1 + T.length = n) := by
          show _ = _
          rw [← hT, List.length_drop, hn'.out]
          omega
        have ho' : wr.ownsRow w.heap.size 9 1 (.slice (some ⟨g1, 0, none⟩) n c1) n (sV ((S.take k ++ x :: S.drop k) ++ T)) := by
          have e : (S.take k ++ x :: S.drop k) ++ T = S ++ x :: T := by
            rw [List.take_of_length_le (by rw [hSl.out]; omega), List.drop_of_length_le (by rw [hSl.out]; omega)]
            simp
          rw [e]
          exact ho
        clear ho hxe hx hS hT
        go_wp2
        clear hck
        go_loopw [6] (fun j wi => ∃ (p : Nat) (u : ByteArray), p ≤ k ∧ j = .int .i64 p ∧ wi.ownsRow w.heap.size 9 1 (.slice (some ⟨g1, 0, none⟩) n c1) n (sV ((S.take p ++ u :: S.drop p) ++ T)) ∧ Below w.heap.size w wi ∧ Hid (∀ y ∈ S.drop p, gtS x y = true)) (fun j _ => (intOf j).toNat)
        case atStart => exact ⟨k, x, Nat.le_refl _, rfl, ho', hb, fun y hy => by rw [List.drop_of_length_le (by rw [hSl.out]; omega)] at hy; simp at hy⟩
        case round =>
          obtain ⟨p, u, hp, rfl, hoi, hbi, hgt⟩ := hrel
          clear ho' hb
          have hpS : p ≤ S.length := by rw [hSl.out]; exact hp
          have hlen := hole_len u hpS
          have fin : Hid (∀ W : World, W = wr.setCell ⟨g1, p, none⟩ (.string x) → (p = 0 ∨ ∃ y, S[p - 1]? = some y ∧ gtS x y = false) → W.ownsRow w.heap.size 9 1 (.slice (some ⟨g1, 0, none⟩) n c1) n (sV (sortS (zs.take (k + 1)) ++ zs.drop (k + 1))) ∧ Below w.heap.size w W) := by
            intro W hW hc
            subst hW
            have h1 := (World.ownsRow.stored hoi p (.string x)).1
            have e : (sV ((S.take p ++ u :: S.drop p) ++ T)).set p (.string x) = sV (sortS (zs.take (k + 1)) ++ zs.drop (k + 1)) := by
              rw [hnx.out, insBy_at hpS hgt.out hc]
              unfold sV
              rw [← List.map_set, List.set_append_left _ _ (by rw [hlen]; omega), hole_end u x hpS]
            rw [e] at h1
            exact ⟨h1, hbi.setCell (p := ⟨g1, p, none⟩) hg1 _⟩
          have hTn := hTl.out
          have hSn := hSl.out
          have hcp := World.ownsRow.cellAt hoi p (by omega)
          have hfp := World.ownsRow.frozenAt hoi p
          obtain ⟨V, hV⟩ : ∃ V, (sV ((S.take p ++ u :: S.drop p) ++ T))[p]? = some V := ⟨_, List.getElem?_eq_getElem (by rw [sV_len, List.length_append, hlen]; omega)⟩
          rw [hV] at hcp
          have hpn1 : (p : Int) < (n : Int) := by omega
          have hp0' : (0 : Int) ≤ (p : Int) := by omega
          have HTn : Hid _ := hTn
          have HSn : Hid _ := hSn
          clear hTn hSn
          rcases Nat.eq_zero_or_pos p with rfl | hpos
          · have HD : Hid _ := fin.out _ rfl (.inl rfl)
            clear fin hoi hbi hgt hV hlen
            go_wp2
            go_roundw
            case rel => exact ⟨k + 1, by omega, by omega, by go_num, HD.out⟩
            case measure => simp [intOf]; omega
          · obtain ⟨q, rfl⟩ : ∃ q, p = q + 1 := ⟨p - 1, by omega⟩
            have hql : q < S.length := by omega
            obtain ⟨y, hy⟩ : ∃ y, S[q]? = some y := ⟨_, List.getElem?_eq_getElem hql⟩
            have hcq := World.ownsRow.cellAt hoi q (by omega)
            rw [sV_at (z := y) (by rw [List.getElem?_append_left (by rw [hlen]; omega)]; exact hole_left u (Nat.lt_succ_self q) hpS hy)] at hcq
            have hgt0 : (0 : Int) < ((q + 1 : Nat) : Int) := by omega
            have hqn : (q : Int) < (n : Int) := by omega
            have hq0 : (0 : Int) ≤ (q : Int) := by omega
            have hsub : (((q + 1 : Nat) : Int) - 1) = (q : Int) := by omega
            cases hxy : gtS x y with
            | true =>
              have hst := (World.ownsRow.stored hoi (q + 1) (.string y)).1
              have e : (sV ((S.take (q + 1) ++ u :: S.drop (q + 1)) ++ T)).set (q + 1) (.string y) = sV ((S.take q ++ y :: S.drop q) ++ T) := by
                unfold sV
                rw [← List.map_set, List.set_append_left _ _ (by rw [hlen]; omega), hole_step u hy]
              rw [e] at hst
              have hb' := hbi.setCell (p := ⟨g1, q + 1, none⟩) hg1 (.string y)
              have hgt' : Hid (∀ z ∈ S.drop q, gtS x z = true) := fun z hz => by
                rcases drop_mem hy hz with rfl | hz
                · exact hxy
                · exact hgt.out z hz
              obtain ⟨hA, hB⟩ : Op.bytesLess y.toList x.toList = false ∧ (y.toList == x.toList) = false := by unfold gtS at hxy; simpa using hxy
              clear fin hoi hbi hgt hV hlen e hy hxy
              go_wp2
              go_roundw
              case rel => exact ⟨q, y, by omega, by go_num, hst, hb', hgt'⟩
              case measure => simp [intOf]
            | false =>
              have HD : Hid _ := fin.out _ rfl (.inr ⟨y, by rw [Nat.add_sub_cancel]; exact hy, hxy⟩)
              have hAB : Op.bytesLess y.toList x.toList = true ∨ (Op.bytesLess y.toList x.toList = false ∧ (y.toList == x.toList) = true) := by
                unfold gtS at hxy
                cases h1 : Op.bytesLess y.toList x.toList with
                | true => exact .inl rfl
                | false => rw [h1] at hxy; exact .inr ⟨rfl, by simpa using hxy⟩
              clear fin hoi hbi hgt hV hlen hy hxy
              rcases hAB with hA | ⟨hA, hB⟩
              · go_wp2
                go_roundw
                case rel => exact ⟨k + 1, by omega, by omega, by go_num, HD.out⟩
                case measure => simp [intOf]; omega
              · go_wp2
                go_roundw
                case rel => exact ⟨k + 1, by omega, by omega, by go_num, HD.out⟩
                case measure => simp [intOf]; omega
      · have hki : ¬ (k : Int) < (n : Int) := by omega
        have e : sortS (zs.take k) ++ zs.drop k = sortS zs := by
          rw [List.take_of_length_le (by rw [hn'.out]; omega), List.drop_of_length_le (by rw [hn'.out]; omega)]
          simp
        rw [e] at ho
        have HD : Hid _ := And.intro ho hb
        clear ho hb e
        go_wp2
        go_ret
        first | exact ⟨g1, c1, rfl, HD.out⟩ | exact ⟨_, ⟨_, rfl⟩, HD.out⟩
end Go.Proofs.YtnadeelnjhollaaGreat
