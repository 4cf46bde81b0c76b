/-
  Joined: SplitS, Eqs, Join, Parent.
-/
import Derived.Test.YtnfplimhhjpbkaaGreatDoorJ18N
namespace Go.Proofs.YtnfplimhhjpbkaaGreatDoor
section
open Go.RowKit
theorem OwnS.len {w : World} {g n cap : Nat} {zs : List ByteArray} (h : OwnS w g n cap zs) : zs.length = n := by simpa using h.1
theorem OwnS.lt {w : World} {g n cap : Nat} {zs : List ByteArray} (h : OwnS w g n cap zs) : g < w.heap.size := (World.ownsRow.lt h g rfl).2
theorem OwnS.keep {w w' : World} {g n cap : Nat} {zs : List ByteArray} (h : OwnS w g n cap zs) (hb : Below w.heap.size w w') : OwnS w' g n cap zs := row_below hb h
theorem OwnS.kept {w w' : World} {g n c g2 : Nat} {zs : List ByteArray} (h : OwnS w g n c zs) (hg : w.grownBy w' (some g2)) (hne : g ≠ g2) : OwnS w' g n c zs :=
  World.ownsRow.kept h hg (.inr (by simp [Value.ownBlock, hne]))
theorem OwnS.alloc {w : World} {g n c : Nat} {zs : List ByteArray} (h : OwnS w g n c zs) (o : Obj) : OwnS (w.alloc o) g n c zs := World.ownsRow.alloc h o
theorem ownS_empty (w : World) : OwnS (w.alloc (.cells #[] 9)) w.heap.size 0 0 [] :=
  World.ownsRow_made (base := 0) (e := 9) (size := 1) w #[] 0 (Nat.zero_le _) (by unfold maxLen; omega) rfl
/-- The texts zs can be read from the address a on. -/
def RdS (w : World) (a : Option Addr) (zs : List ByteArray) : Prop :=
  zs = [] ∨ ∃ b off, a = some ⟨b, off, none⟩ ∧ ∀ i, i < zs.length → w.cell? ⟨b, off + i, none⟩ = some (.string (zs.getD i ⟨#[]⟩))
theorem RdS.lt {w : World} {a : Option Addr} {zs : List ByteArray} (h : RdS w a zs) (hz : zs ≠ []) : ∃ b off, a = some ⟨b, off, none⟩ ∧ b < w.heap.size ∧ ∀ i, i < zs.length → w.cell? ⟨b, off + i, none⟩ = some (.string (zs.getD i ⟨#[]⟩)) := by
  rcases h with h | ⟨b, off, rfl, hc⟩
  · exact absurd h hz
  · exact ⟨b, off, rfl, World.block_lt_of_cell? w _ (hc 0 (List.length_pos_iff.2 hz)), hc⟩
theorem RdS.keep {w w' : World} {a : Option Addr} {zs : List ByteArray} (h : RdS w a zs) (hb : Below w.heap.size w w') : RdS w' a zs := by
  by_cases hz : zs = []
  · exact .inl hz
  · obtain ⟨b, off, rfl, hlt, hc⟩ := h.lt hz
    refine .inr ⟨b, off, rfl, fun i hi => ?_⟩
    rw [hb.cell (p := ⟨b, off + i, none⟩) hlt]
    exact hc i hi
theorem OwnS.rd {w : World} {g n cap : Nat} {zs : List ByteArray} (h : OwnS w g n cap zs) : RdS w (some ⟨g, 0, none⟩) zs := by
  refine .inr ⟨g, 0, rfl, fun i hi => ?_⟩
  have hn := h.len
  have := World.ownsRow.cellAt h i (by omega)
  rw [Nat.zero_add, this]
  simp [hi]
theorem RdS.take {w : World} {a : Option Addr} {zs : List ByteArray} (h : RdS w a zs) (k : Nat) : RdS w a (zs.take k) := by
  rcases h with h | ⟨b, off, rfl, hc⟩
  · exact .inl (by rw [h]; simp)
  · refine .inr ⟨b, off, rfl, fun i hi => ?_⟩
    simp only [List.length_take] at hi
    rw [hc i (by omega)]
    have : i < k := by omega
    simp [this]
/-- An append of one text onto a row of the call's own: the new slice written out. -/
theorem appS (w : World) {ops : Array Oper} {rest : List Oper} {o : Oper} {a : Act} {Q : Exit → Act → World → Prop} (hgd : o.guard = none) (s x : Operand)
    (ho : o.op = .call { callee := .builtin .append, args := #[s, x], argTypes := #[31, 31] })
    (g k c : Nat) (zs : List ByteArray) (hs : a.eval s = .slice (some ⟨g, 0, none⟩) k c) (hown : OwnS w g k c zs)
    (ad : Nat) (z : ByteArray) (hx : a.eval x = .slice (some ⟨ad, 0, none⟩) 1 1) (hcell : w.cell? ⟨ad, 0, none⟩ = some (.string z)) (hk : k ≤ 1000000) (H : Nat) (hH : w.heap.size = H)
    (h : ∀ g' c' w', OwnS w' g' (k + 1) c' (zs ++ [z]) → w.grownBy w' (some g) → (g' = g ∨ g' = H) → wpList Tryz.prog ops Q rest (a.put o.dst (.slice (some ⟨g', 0, none⟩) (k + 1) c')) w') :
    wpList Tryz.prog ops Q (o :: rest) a w := by
  obtain ⟨i0, hi, hz0, hz1, hz2⟩ := info_parts Tryz.info9
  refine wpList_append_own_at w hgd s x 31 ho 0 9 i0 (.string ⟨#[]⟩) 1 16 Tryz.underlying31 hi hz0 hz1 hz2 rfl (by decide) _ k (zs.map Value.string) hs hown ⟨ad, 0, none⟩ 1 1 [.string z] hx rfl ?_ (by simp [Value.oneCell']) (by unfold maxLen; omega) (by omega) (Nat.zero_le _) ?_
  · intro j u hj
    cases j with
    | zero => simp at hj; subst hj; simpa [Addr.add] using hcell
    | succ j => simp at hj
  · intro v' w' h1 h2 _ h4
    obtain ⟨g', c', rfl⟩ := ownsRow_succ h1
    refine h g' c' w' ?_ h2 ?_
    · unfold OwnS; rw [List.map_append]; exact h1
    · rcases h4 with h4 | h4
      · left; simpa [Value.ownBlock] using h4
      · right; rw [← hH]; simpa [Value.ownBlock] using h4
theorem strs_snoc (zs : List ByteArray) (z : ByteArray) : strs (zs ++ [z]) = strs zs ++ [z.data.toList] := by simp [strs]
theorem strs_length (zs : List ByteArray) : (strs zs).length = zs.length := by simp [strs]
theorem spGo_skip {l : Str} {f i b : Nat} (out : List Str) (h : i < l.length ∧ l.getD i 0 ≠ 47) : spGo l (f + 1) i b out = spGo l f (i + 1) b out := by
  conv => lhs; unfold spGo
  rw [if_pos h]
theorem spGo_first {l : Str} {f b : Nat} (out : List Str) (h : ¬ (0 < l.length ∧ l.getD 0 0 ≠ 47)) : spGo l (f + 1) 0 b out = spGo l f (0 + 1) (0 + 1) out := by
  conv => lhs; unfold spGo
  rw [if_neg h, if_pos rfl]
theorem spGo_bad {l : Str} {f i b : Nat} (out : List Str) (h : ¬ (i < l.length ∧ l.getD i 0 ≠ 47)) (h0 : i ≠ 0) (hb : nameOk ((l.take i).drop b) = false ∨ out.length = 30) : spGo l (f + 1) i b out = none := by
  conv => lhs; unfold spGo
  rw [if_neg h, if_neg h0, if_pos hb]
theorem spGo_name {l : Str} {f i b : Nat} (out : List Str) (h : ¬ (i < l.length ∧ l.getD i 0 ≠ 47)) (h0 : i ≠ 0) (hb : ¬ (nameOk ((l.take i).drop b) = false ∨ out.length = 30)) : spGo l (f + 1) i b out = spGo l f (i + 1) (i + 1) (out ++ [(l.take i).drop b]) := by
  conv => lhs; unfold spGo
  rw [if_neg h, if_neg h0, if_neg hb]
set_option maxRecDepth 100000 in
set_option maxHeartbeats 2000000 in
theorem splitS (s : ByteArray) (w : World) (hs : s.size ≤ 4000000) : Calls Tryz.prog 97 #[.string s] w (SpPost s w) := by
  have htl := Lib.toList_data s
  have hsz := Lib.size_eq s
  by_cases h1 : s.toList = [47]
  · have hb : (s.toList == [47]) = true := by rw [h1]; rfl
    have hsp : Hid (splitOf s.data.toList = some []) := by show _ = _; rw [← htl, h1]; decide
    clear htl hsz h1
    go_enter Tryz.func97, Tryz.ntmps97
    go_wp2
    go_ret2
    exact ⟨(Below.refl _ w).alloc (Nat.le_refl _) _, .inr ⟨[], _, _, hsp.out, rfl, Nat.le_refl _, ownS_empty w⟩⟩
  · have hb : (s.toList == [47]) = false := by simpa using h1
    have hsp : Hid _ := spec_split s.data.toList (by rw [← htl]; exact h1)
    have hsz' : Hid (s.size = s.data.toList.length) := hsz
    clear htl hsz h1
    go_enter Tryz.func97, Tryz.ntmps97
    go_wp2
    go_loopw [4, 5, 6] (fun v b i wr => ∃ (k bg g c : Nat) (zs : List ByteArray), v = .slice (some ⟨g, 0, none⟩) zs.length c ∧ b = .int .i64 bg ∧ i = .int .i64 k ∧ k ≤ s.size + 1 ∧ bg ≤ k ∧ zs.length ≤ 30 ∧ w.heap.size ≤ g ∧ OwnS wr g zs.length c zs ∧ Below w.heap.size w wr ∧
        Hid (spGo s.data.toList (s.data.toList.length + 1) 0 0 [] = spGo s.data.toList (s.size + 1 - k) k bg (strs zs))) (fun _ _ i _ => s.size + 1 - (intOf i).toNat)
    case atStart => exact ⟨0, 0, w.heap.size, 0, [], rfl, rfl, rfl, Nat.zero_le _, Nat.le_refl _, by simp, Nat.le_refl _, ownS_empty w, (Below.refl _ w).alloc (Nat.le_refl _) _, by rw [hsz'.out]; rfl⟩
    case round =>
      obtain ⟨k, bg, g, c, zs, rfl, rfl, rfl, hk, hbk, hzl, hg, ho, hB, hgo⟩ := hrel
      by_cases hkn : k ≤ s.size
      · have hki : (k : Int) ≤ (s.size : Int) := by omega
        obtain ⟨f, hf⟩ : ∃ f, s.size + 1 - k = f + 1 := ⟨s.size - k, by omega⟩
        have hf' : s.size + 1 - (k + 1) = f := by omega
        rw [hf] at hgo
        by_cases hskip : k < s.size ∧ byt s k ≠ 47
        · have hkl : (k : Int) < (s.size : Int) := by omega
          have hb0 := byt_get s k hskip.1
          obtain ⟨v, hv⟩ : ∃ v, (byt s k).toNat = v := ⟨_, rfl⟩
          have hbv : s[k].toNat = v := by rw [hb0]; exact hv
          have hv47 : ¬ (v : Int) = 47 := by
            intro e
            exact hskip.2 (UInt8.toNat_inj.1 (by rw [hv]; show v = 47; omega))
          have hvb : ((v : Int) == 47) = false := by simpa using hv47
          have hgo' : Hid (spGo s.data.toList (s.data.toList.length + 1) 0 0 [] = spGo s.data.toList (s.size + 1 - (k + 1)) (k + 1) bg (strs zs)) := by
            show _ = _
            rw [hgo.out, hf', spGo_skip _ ⟨by rw [← hsz'.out]; exact hskip.1, hskip.2⟩]
          clear hb0 hv hgo hf hf'
          go_wp2
          go_roundw
          case rel => exact ⟨k + 1, bg, g, c, zs, rfl, rfl, by go_num, by omega, by omega, hzl, hg, ho, hB, hgo'⟩
          case measure => simp [intOf]; omega
        · have hns : ¬ (k < s.data.toList.length ∧ s.data.toList.getD k 0 ≠ 47) := by rw [← hsz'.out]; exact hskip
          by_cases hk0 : k = 0
          · subst hk0
            obtain rfl : bg = 0 := by omega
            have hgo' : Hid (spGo s.data.toList (s.data.toList.length + 1) 0 0 [] = spGo s.data.toList (s.size + 1 - (0 + 1)) (0 + 1) (0 + 1) (strs zs)) := by
              show _ = _
              rw [hgo.out, hf', spGo_first _ hns]
            by_cases hkl : 0 < s.size
            · have hkl' : (0 : Int) < (s.size : Int) := by omega
              have hb0 := byt_get s 0 hkl
              have hv47 : byt s 0 = 47 := by
                by_cases h : byt s 0 = 47
                · exact h
                · exact absurd ⟨hkl, h⟩ hskip
              have hbv : s[0].toNat = 47 := by rw [hb0, hv47]; rfl
              clear hb0 hv47 hgo hf hf'
              go_wp2
              go_roundw
              case rel => exact ⟨1, 1, g, c, zs, rfl, rfl, by go_num, by omega, by omega, hzl, hg, ho, hB, hgo'⟩
              case measure => simp [intOf]
            · have hkl' : ¬ (0 : Int) < (s.size : Int) := by omega
              clear hgo hf hf'
              go_wp2
              go_roundw
              case rel => exact ⟨1, 1, g, c, zs, rfl, rfl, by go_num, by omega, by omega, hzl, hg, ho, hB, hgo'⟩
              case measure => simp [intOf]
          · have hk0' : (0 : Int) < (k : Int) := by omega
            have hex : (s.extract bg k).data.toList = (s.data.toList.take k).drop bg := by rw [Lib.extract_data, List.drop_take]
            have c1 : (0 : Int) ≤ (bg : Int) := by omega
            have c2 : (bg : Int) ≤ (k : Int) := by omega
            obtain ⟨z, hz⟩ : ∃ z, s.extract bg k = z := ⟨_, rfl⟩
            have hzs : z.size ≤ 4000000 := by
              rw [Lib.size_eq, ← hz, hex]; simp; omega
            have hbad : Hid (nameOk z.data.toList = false ∨ zs.length = 30 → spGo s.data.toList (s.data.toList.length + 1) 0 0 [] = none) := by
              intro h
              rw [hgo.out, spGo_bad _ hns hk0 (by rw [← hex, hz, strs_length]; exact h)]
            have hgood : Hid (¬ (nameOk z.data.toList = false ∨ zs.length = 30) → spGo s.data.toList (s.data.toList.length + 1) 0 0 [] = spGo s.data.toList (s.size + 1 - (k + 1)) (k + 1) (k + 1) (strs (zs ++ [z]))) := by
              intro h
              rw [hgo.out, hf', spGo_name _ hns hk0 (by rw [← hex, hz, strs_length]; exact h), strs_snoc, ← hex, hz]
            clear hgo hex hns hf hf'
            by_cases hkl : k < s.size
            · have hkl' : (k : Int) < (s.size : Int) := by omega
              have hb0 := byt_get s k hkl
              have hv47 : byt s k = 47 := by
                by_cases h : byt s k = 47
                · exact h
                · exact absurd ⟨hkl, h⟩ hskip
              have hbv : s[k].toNat = 47 := by rw [hb0, hv47]; rfl
              clear hb0 hv47 hskip
              go_wp2_with fail
              refine (nameS z _ hzs).mono ?_
              rintro e w1 ⟨rfl, hw⟩
              obtain rfl := hw.symm
              cases hnm : nameOk z.data.toList with
              | false =>
                have hbd : Hid (spGo s.data.toList (s.data.toList.length + 1) 0 0 [] = none) := hbad.out (.inl hnm)
                go_wp2
                go_ret2
                exact ⟨hB.trans ((Below.refl _ wr).alloc hB.size _), .inl ⟨by rw [← hsp.out, hbd.out], _, _, rfl⟩⟩
              | true =>
                by_cases h30 : zs.length = 30
                · have h30' : (zs.length : Int) = 30 := by omega
                  have hbd : Hid (spGo s.data.toList (s.data.toList.length + 1) 0 0 [] = none) := hbad.out (.inr h30)
                  go_wp2
                  go_ret2
                  exact ⟨hB.trans ((Below.refl _ wr).alloc hB.size _), .inl ⟨by rw [← hsp.out, hbd.out], _, _, rfl⟩⟩
                · have h30' : ¬ (zs.length : Int) = 30 := by omega
                  have h30b : ((zs.length : Int) == 30) = false := by simpa using h30'
                  have hgd : Hid _ := hgood.out (by rw [hnm]; intro h; rcases h with h | h; · simp at h
                                                    · exact h30 h)
                  go_wp2_with (at_builtin; refine appS _ rfl (.tmp 43) (.tmp 45) rfl g zs.length c zs rfl (ho.alloc _) wr.heap.size z rfl (Boxed.new wr 9 (.string z)).cell (by omega) (wr.heap.size + 1) (by simp) ?_; intro g3 c3 w3 ho3 hg3 ha3)
                  go_roundw
                  case rel =>
                    have hwz := hB.size
                    exact ⟨k + 1, k + 1, g3, c3, zs ++ [z], by simp, by go_num, by go_num, by omega, by omega, by simp; omega, by omega, by simpa using ho3, (hB.trans ((Below.refl _ wr).alloc hB.size _)).trans ((Below.refl _ _).grown hg3 (by simp; omega) (by intro j hj; simp at hj; omega)), hgd⟩
                  case measure => simp [intOf]; omega
            · have hkl' : ¬ (k : Int) < (s.size : Int) := by omega
              clear hskip
              go_wp2_with fail
              refine (nameS z _ hzs).mono ?_
              rintro e w1 ⟨rfl, hw⟩
              obtain rfl := hw.symm
              cases hnm : nameOk z.data.toList with
              | false =>
                have hbd : Hid (spGo s.data.toList (s.data.toList.length + 1) 0 0 [] = none) := hbad.out (.inl hnm)
                go_wp2
                go_ret2
                exact ⟨hB.trans ((Below.refl _ wr).alloc hB.size _), .inl ⟨by rw [← hsp.out, hbd.out], _, _, rfl⟩⟩
              | true =>
                by_cases h30 : zs.length = 30
                · have h30' : (zs.length : Int) = 30 := by omega
                  have hbd : Hid (spGo s.data.toList (s.data.toList.length + 1) 0 0 [] = none) := hbad.out (.inr h30)
                  go_wp2
                  go_ret2
                  exact ⟨hB.trans ((Below.refl _ wr).alloc hB.size _), .inl ⟨by rw [← hsp.out, hbd.out], _, _, rfl⟩⟩
                · have h30' : ¬ (zs.length : Int) = 30 := by omega
                  have h30b : ((zs.length : Int) == 30) = false := by simpa using h30'
                  have hgd : Hid _ := hgood.out (by rw [hnm]; intro h; rcases h with h | h; · simp at h
                                                    · exact h30 h)
                  go_wp2_with (at_builtin; refine appS _ rfl (.tmp 43) (.tmp 45) rfl g zs.length c zs rfl (ho.alloc _) wr.heap.size z rfl (Boxed.new wr 9 (.string z)).cell (by omega) (wr.heap.size + 1) (by simp) ?_; intro g3 c3 w3 ho3 hg3 ha3)
                  go_roundw
                  case rel =>
                    have hwz := hB.size
                    exact ⟨k + 1, k + 1, g3, c3, zs ++ [z], by simp, by go_num, by go_num, by omega, by omega, by simp; omega, by omega, by simpa using ho3, (hB.trans ((Below.refl _ wr).alloc hB.size _)).trans ((Below.refl _ _).grown hg3 (by simp; omega) (by intro j hj; simp at hj; omega)), hgd⟩
                  case measure => simp [intOf]; omega
      · have hki : ¬ (k : Int) ≤ (s.size : Int) := by omega
        have hend : Hid (spGo s.data.toList (s.data.toList.length + 1) 0 0 [] = some (strs zs)) := by
          show _ = _
          rw [hgo.out, show s.size + 1 - k = 0 by omega]
          rfl
        clear hgo
        by_cases h0 : s.size = 0
        · have h0' : (s.size : Int) = 0 := by omega
          have hno : Hid (splitOf s.data.toList = none) := by
            show _ = _
            rw [← hsp.out, hend.out]
            exact if_pos (.inl (by rw [← hsz'.out]; exact h0))
          go_wp2
          go_ret2
          exact ⟨hB.trans ((Below.refl _ wr).alloc hB.size _), .inl ⟨hno.out, _, _, rfl⟩⟩
        · have h0' : ¬ (s.size : Int) = 0 := by omega
          have h0b : ((s.size : Int) == 0) = false := by simpa using h0'
          have hp0 : (0 : Int) < (s.size : Int) := by omega
          have hb0 := byt_get s 0 (by omega)
          obtain ⟨v, hv⟩ : ∃ v, (byt s 0).toNat = v := ⟨_, rfl⟩
          have hbv : s[0].toNat = v := by rw [hb0]; exact hv
          by_cases hv47 : v = 47
          · subst hv47
            have hyes : Hid (splitOf s.data.toList = some (strs zs)) := by
              show _ = _
              rw [← hsp.out, hend.out]
              refine if_neg ?_
              rintro (h | h)
              · rw [← hsz'.out] at h; exact h0 h
              · exact h (UInt8.toNat_inj.1 hv)
            clear hb0 hv
            go_wp2
            go_ret2
            exact ⟨hB, .inr ⟨zs, g, c, hyes.out, rfl, hg, ho⟩⟩
          · have hv' : ¬ (v : Int) = 47 := by omega
            have hvb : ((v : Int) == 47) = false := by simpa using hv'
            have hno : Hid (splitOf s.data.toList = none) := by
              show _ = _
              rw [← hsp.out, hend.out]
              refine if_pos (.inr ?_)
              intro h
              apply hv47
              rw [← hv]
              show (s.data.toList.getD 0 0).toNat = 47
              rw [h]; rfl
            clear hb0 hv
            go_wp2
            go_ret2
            exact ⟨hB.trans ((Below.refl _ wr).alloc hB.size _), .inl ⟨hno.out, _, _, rfl⟩⟩
end

section
open Go.RowKit
theorem str_ne {z y : ByteArray} (h : z ≠ y) : (z.toList == y.toList) = false := by
  rw [beq_eq_false_iff_ne]
  intro e
  rw [Lib.toList_data, Lib.toList_data] at e
  apply h
  rw [← Lib.mk_data z, ← Lib.mk_data y, e]
theorem strs_inj : ∀ {zs ys : List ByteArray}, strs zs = strs ys → zs = ys
  | [], [], _ => rfl
  | [], _ :: _, h => by simp [strs] at h
  | _ :: _, [], h => by simp [strs] at h
  | z :: zs, y :: ys, h => by
    simp only [strs, List.map_cons, List.cons.injEq] at h
    have e : z = y := by rw [← Lib.mk_data z, ← Lib.mk_data y, h.1]
    rw [e, strs_inj h.2]
/-- What SplitPath answers, the answer known. -/
theorem SpPost.no {s : ByteArray} {w w' : World} {e : Ending} (h : SpPost s w e w') (hs : splitOf s.data.toList = none) : Below w.heap.size w w' ∧ ∃ a c, e = .returned (.tuple #[.slice a 0 c, .bool false]) := by
  rcases h.2 with ⟨_, h2⟩ | ⟨zs, g, c, h2, _⟩
  · exact ⟨h.1, h2⟩
  · rw [hs] at h2; cases h2
theorem SpPost.yes {s : ByteArray} {w w' : World} {e : Ending} {zs : List ByteArray} (h : SpPost s w e w') (hs : splitOf s.data.toList = some (strs zs)) : Below w.heap.size w w' ∧ ∃ g c, e = .returned (.tuple #[.slice (some ⟨g, 0, none⟩) zs.length c, .bool true]) ∧ w.heap.size ≤ g ∧ OwnS w' g zs.length c zs := by
  rcases h.2 with ⟨h2, _⟩ | ⟨ys, g, c, h2, h3⟩
  · rw [hs] at h2; cases h2
  · rw [hs, Option.some.injEq] at h2
    obtain rfl := strs_inj h2
    exact ⟨h.1, g, c, h3⟩
theorem split_strs {l : Str} {ps : List Str} (h : splitOf l = some ps) : ∃ zs, splitOf l = some (strs zs) ∧ zs.length ≤ 30 := by
  refine ⟨ps.map (fun p => ⟨p.toArray⟩), ?_, ?_⟩
  · rw [h]
    simp [strs, Function.comp_def]
  · simpa using good_len (split_good h)
end

section
open Go.RowKit
def strB (l : Str) : ByteArray := ⟨l.toArray⟩
/-- What k names are joined to. -/
def joinTo (zs : List ByteArray) (k : Nat) : Str := ((strs zs).take k).flatMap (fun p => 47 :: p)
theorem joinTo_zero (zs : List ByteArray) : joinTo zs 0 = [] := by simp [joinTo]
theorem joinTo_succ (zs : List ByteArray) (k : Nat) (h : k < zs.length) : joinTo zs (k + 1) = joinTo zs k ++ 47 :: (zs.getD k ⟨#[]⟩).data.toList := by
  unfold joinTo
  have h' : k < (strs zs).length := by rw [strs_length]; exact h
  rw [List.take_succ_eq_append_getElem h', List.flatMap_append]
  have e : (strs zs)[k] = (zs.getD k ⟨#[]⟩).data.toList := by simp [strs, h]
  simp [e]
theorem joinTo_all (zs : List ByteArray) (k : Nat) (h : zs.length ≤ k) : joinTo zs k = (strs zs).flatMap (fun p => 47 :: p) := by
  unfold joinTo
  rw [List.take_of_length_le (by rw [strs_length]; exact h)]
theorem join_none (zs : List ByteArray) (h0 : zs.length ≠ 0) (h : 30 < zs.length ∨ ∃ k, k < zs.length ∧ nameOk (zs.getD k ⟨#[]⟩).data.toList = false) : joinOf (strs zs) = [] := by
  have hne : strs zs ≠ [] := by intro e; apply h0; rw [← strs_length, e]; rfl
  have hg : good (strs zs) = false := by
    rw [Bool.eq_false_iff]
    intro hg
    rcases h with h | ⟨k, hk, h⟩
    · have := good_len hg; rw [strs_length] at this; omega
    · have hm : (zs.getD k ⟨#[]⟩).data.toList ∈ strs zs := by
        have e : zs.getD k ⟨#[]⟩ = zs[k] := by simp [hk]
        rw [e]
        exact List.mem_map.2 ⟨zs[k], List.getElem_mem hk, rfl⟩
      rw [good_all hg _ hm] at h
      simp at h
  rw [joinOf, if_neg hne, hg]
  rfl
theorem join_some (zs : List ByteArray) (h0 : zs.length ≠ 0) (h1 : zs.length ≤ 30) (h : ∀ k, k < zs.length → nameOk (zs.getD k ⟨#[]⟩).data.toList = true) : joinOf (strs zs) = joinTo zs zs.length := by
  have hne : strs zs ≠ [] := by intro e; apply h0; rw [← strs_length, e]; rfl
  have hg : good (strs zs) = true := by
    refine good_of (by rw [strs_length]; exact h1) ?_
    intro z hz
    obtain ⟨y, hy, rfl⟩ := List.mem_map.1 hz
    obtain ⟨k, hk, rfl⟩ := List.getElem_of_mem hy
    have := h k hk
    simpa [hk] using this
  rw [joinOf, if_neg hne, if_pos hg, joinTo_all zs _ (Nat.le_refl _)]
theorem joinTo_len (zs : List ByteArray) (k : Nat) (hk : k ≤ zs.length) (h : ∀ j, j < k → nameOk (zs.getD j ⟨#[]⟩).data.toList = true) : (joinTo zs k).length ≤ 15 * k := by
  induction k with
  | zero => simp [joinTo]
  | succ k ih =>
    rw [joinTo_succ zs k (by omega), List.length_append, List.length_cons]
    have := ih (by omega) (fun j hj => h j (by omega))
    have := nameOk_len (h k (by omega))
    omega
theorem strB_size (l : Str) : (strB l).size = l.length := by rw [Lib.size_eq]; simp [strB]
/-- Texts of at most so many bytes each. -/
def Smalls (zs : List ByteArray) : Prop := ∀ z ∈ zs, z.size ≤ 4000000
theorem Smalls.at {zs : List ByteArray} (h : Smalls zs) {k : Nat} (hk : k < zs.length) : (zs.getD k ⟨#[]⟩).size ≤ 4000000 := by
  have e : zs.getD k ⟨#[]⟩ = zs[k] := by simp [hk]
  rw [e]; exact h _ (List.getElem_mem hk)
theorem app_str (a : Str) (z : ByteArray) : strB a ++ ((⟨#[47]⟩ : ByteArray) ++ z) = strB (a ++ 47 :: z.data.toList) := by
  apply ByteArray.ext
  simp [strB, ByteArray.data_append]
theorem app_str' (a : Str) (z : ByteArray) : strB a ++ (⟨#[47]⟩ : ByteArray) ++ z = strB (a ++ 47 :: z.data.toList) := by
  apply ByteArray.ext
  simp [strB, ByteArray.data_append]
set_option maxHeartbeats 1000000 in
theorem joinI (a : Option Addr) (n cap : Nat) (zs : List ByteArray) (w : World) (hn : zs.length = n) (hs : n ≤ 4000000) (hsm : Smalls zs) (hr : RdS w a zs) :
    Calls Tryz.prog 253 #[.slice a n cap] w fun e w' => e = .returned (.string (strB (joinOf (strs zs)))) ∧ w' = w := by
  by_cases h0 : n = 0
  · subst h0
    obtain rfl : zs = [] := List.length_eq_zero_iff.1 hn
    go_enter Tryz.func253, Tryz.ntmps253
    go_wp2
    go_ret
    exact ⟨rfl, rfl⟩
  · have h0' : ¬ (n : Int) = 0 := by omega
    have h0b : ((n : Int) == 0) = false := by simpa using h0'
    by_cases h30 : 30 < n
    · have h30' : (30 : Int) < (n : Int) := by omega
      have hno : Hid (joinOf (strs zs) = []) := join_none zs (by omega) (.inl (by omega))
      clear hr
      go_enter Tryz.func253, Tryz.ntmps253
      go_wp2
      go_ret
      exact ⟨by rw [hno.out]; rfl, rfl⟩
    · have h30' : ¬ (30 : Int) < (n : Int) := by omega
      obtain ⟨b, off, rfl, hlt, hc⟩ := hr.lt (by intro h; subst h; simp at hn; omega)
      clear hr
      have hn' : Hid (zs.length = n) := hn
      clear hn
      obtain ⟨E, hE⟩ : ∃ E, strB [] = E := ⟨_, rfl⟩
      go_enter Tryz.func253, Tryz.ntmps253
      go_wp2
      go_loop [3, 14] (fun v i => ∃ k : Nat, k ≤ n ∧ i = .int .i64 k ∧ v = .string (strB (joinTo zs k)) ∧ Hid (∀ j, j < k → nameOk (zs.getD j ⟨#[]⟩).data.toList = true)) (fun _ i => n - (intOf i).toNat)
      case atStart => exact ⟨0, Nat.zero_le _, rfl, by rw [joinTo_zero]; rfl, fun j hj => by omega⟩
      case round =>
        obtain ⟨k, hk, rfl, rfl, hall⟩ := hrel
        by_cases hkn : k < n
        · have hkl : k < zs.length := by rw [hn'.out]; exact hkn
          have hki : (k : Int) < (n : Int) := by omega
          have hcx := hc k hkl
          have hzs := hsm.at hkl
          have hsucc := joinTo_succ zs k hkl
          have hnone : nameOk (zs.getD k ⟨#[]⟩).data.toList = false → joinOf (strs zs) = [] := fun h => join_none zs (by omega) (.inr ⟨k, hkl, h⟩)
          have hall' : nameOk (zs.getD k ⟨#[]⟩).data.toList = true → ∀ j, j < k + 1 → nameOk (zs.getD j ⟨#[]⟩).data.toList = true := by
            intro h j hj
            rcases (show j < k ∨ j = k by omega) with hj | rfl
            · exact hall.out j hj
            · exact h
          obtain ⟨z, hz⟩ : ∃ z, zs.getD k ⟨#[]⟩ = z := ⟨_, rfl⟩
          rw [hz] at hcx hzs hsucc hnone hall'
          have hTs : (strB (joinTo zs k)).size ≤ 15 * k := by rw [strB_size]; exact joinTo_len zs k (by omega) hall.out
          have happ := app_str (joinTo zs k) z
          rw [← hsucc] at happ
          obtain ⟨T, hT⟩ : ∃ T, strB (joinTo zs k) = T := ⟨_, rfl⟩
          obtain ⟨T', hT'⟩ : ∃ T', strB (joinTo zs (k + 1)) = T' := ⟨_, rfl⟩
          rw [hT, hT'] at happ
          rw [hT] at hTs ⊢
          have hlim : ¬ 9223372036854775807 < T.size + (1 + z.size) := by omega
          have HA : Hid _ := hall'
          have HN : Hid _ := hnone
          clear hz hsucc hall hall' hnone hT hkl
          go_wp2_with fail
          refine (nameI z w hzs).mono ?_
          rintro e w1 ⟨rfl, hw⟩
          obtain rfl := hw.symm
          cases hnm : nameOk z.data.toList with
          | false =>
            have hno : Hid (joinOf (strs zs) = []) := HN.out hnm
            go_wp2
            go_ret
            exact ⟨by rw [hno.out]; rfl, rfl⟩
          | true =>
            have hal : Hid _ := HA.out hnm
            go_wp2
            go_round
            case rel => exact ⟨k + 1, by omega, by go_num, by rw [hT'], hal⟩
            case measure => simp [intOf]; omega
        · have hki : ¬ (k : Int) < (n : Int) := by omega
          obtain rfl : k = n := by omega
          have hyes : Hid (joinOf (strs zs) = joinTo zs k) := by
            show _ = _
            rw [join_some zs (by rw [hn'.out]; exact h0) (by rw [hn'.out]; omega) (by rw [hn'.out]; exact hall.out), hn'.out]
          go_wp2
          go_ret
          exact ⟨by rw [hyes.out]; rfl, rfl⟩
set_option maxHeartbeats 1000000 in
theorem joinS (a : Option Addr) (n cap : Nat) (zs : List ByteArray) (w : World) (hn : zs.length = n) (hs : n ≤ 4000000) (hsm : Smalls zs) (hr : RdS w a zs) :
    Calls Tryz.prog 149 #[.slice a n cap] w fun e w' => e = .returned (.string (strB (joinOf (strs zs)))) ∧ w' = w := by
  by_cases h0 : n = 0
  · subst h0
    obtain rfl : zs = [] := List.length_eq_zero_iff.1 hn
    go_enter Tryz.func149, Tryz.ntmps149
    go_wp2
    go_ret
    exact ⟨rfl, rfl⟩
  · have h0' : ¬ (n : Int) = 0 := by omega
    have h0b : ((n : Int) == 0) = false := by simpa using h0'
    obtain ⟨b, off, rfl, hlt, hc⟩ := hr.lt (by intro h; subst h; simp at hn; omega)
    clear hr
    have hn' : Hid (zs.length = n) := hn
    clear hn
    obtain ⟨E, hE⟩ : ∃ E, strB [] = E := ⟨_, rfl⟩
    go_enter Tryz.func149, Tryz.ntmps149
    go_wp2
    go_loop [3, 4] (fun v i => ∃ k : Nat, k ≤ n ∧ i = .int .i64 k ∧ v = .string (strB (joinTo zs k)) ∧ Hid (∀ j, j < k → nameOk (zs.getD j ⟨#[]⟩).data.toList = true) ∧ (k = 0 ∨ n ≤ 30)) (fun _ i => n - (intOf i).toNat)
    case atStart => exact ⟨0, Nat.zero_le _, rfl, by rw [joinTo_zero]; rfl, fun j hj => by omega, .inl rfl⟩
    case round =>
      obtain ⟨k, hk, rfl, rfl, hall, hk30⟩ := hrel
      by_cases hkn : k < n
      · have hkl : k < zs.length := by rw [hn'.out]; exact hkn
        have hki : (k : Int) < (n : Int) := by omega
        have hcx := hc k hkl
        have hzs := hsm.at hkl
        have hsucc := joinTo_succ zs k hkl
        have hnone : nameOk (zs.getD k ⟨#[]⟩).data.toList = false → joinOf (strs zs) = [] := fun h => join_none zs (by omega) (.inr ⟨k, hkl, h⟩)
        have hall' : nameOk (zs.getD k ⟨#[]⟩).data.toList = true → ∀ j, j < k + 1 → nameOk (zs.getD j ⟨#[]⟩).data.toList = true := by
          intro h j hj
          rcases (show j < k ∨ j = k by omega) with hj | rfl
          · exact hall.out j hj
          · exact h
        obtain ⟨z, hz⟩ : ∃ z, zs.getD k ⟨#[]⟩ = z := ⟨_, rfl⟩
        rw [hz] at hcx hzs hsucc hnone hall'
        have hTs : (strB (joinTo zs k)).size ≤ 15 * k := by rw [strB_size]; exact joinTo_len zs k (by rw [hn'.out]; omega) hall.out
        have happ := app_str' (joinTo zs k) z
        rw [← hsucc] at happ
        obtain ⟨T, hT⟩ : ∃ T, strB (joinTo zs k) = T := ⟨_, rfl⟩
        obtain ⟨T', hT'⟩ : ∃ T', strB (joinTo zs (k + 1)) = T' := ⟨_, rfl⟩
        rw [hT, hT'] at happ
        rw [hT] at hTs ⊢
        have hlim0 : ¬ 9223372036854775807 < T.size + 1 := by omega
        have hlim : ¬ 9223372036854775807 < T.size + 1 + z.size := by omega
        have HA : Hid _ := hall'
        have HN : Hid _ := hnone
        clear hz hsucc hall hall' hnone hT hkl
        go_wp2_with fail
        refine (nameS z w hzs).mono ?_
        rintro e w1 ⟨rfl, hw⟩
        obtain rfl := hw.symm
        cases hnm : nameOk z.data.toList with
        | false =>
          have hno : Hid (joinOf (strs zs) = []) := HN.out hnm
          go_wp2
          go_ret
          exact ⟨by rw [hno.out]; rfl, rfl⟩
        | true =>
          have hal : Hid _ := HA.out hnm
          by_cases h30 : 30 < n
          · have h30' : (30 : Int) < (n : Int) := by omega
            have hno : Hid (joinOf (strs zs) = []) := join_none zs (by rw [hn'.out]; exact h0) (.inl (by rw [hn'.out]; exact h30))
            go_wp2
            go_ret
            exact ⟨by rw [hno.out]; rfl, rfl⟩
          · have h30' : ¬ (30 : Int) < (n : Int) := by omega
            go_wp2
            go_round
            case rel => exact ⟨k + 1, by omega, by go_num, by rw [hT'], hal, by omega⟩
            case measure => simp [intOf]; omega
      · have hki : ¬ (k : Int) < (n : Int) := by omega
        obtain rfl : k = n := by omega
        have hyes : Hid (joinOf (strs zs) = joinTo zs k) := by
          show _ = _
          rw [join_some zs (by rw [hn'.out]; exact h0) (by rw [hn'.out]; omega) (by rw [hn'.out]; exact hall.out), hn'.out]
        go_wp2
        go_ret
        exact ⟨by rw [hyes.out]; rfl, rfl⟩
end

section
open Go.RowKit
theorem OwnS.cap {w : World} {g n cap : Nat} {zs : List ByteArray} (h : OwnS w g n cap zs) : n ≤ cap := by
  rcases h.2 with ⟨h', _⟩ | ⟨g', cap', cur, h', _, _, hle, _⟩
  · simp at h'
  · simp only [Value.slice.injEq, Option.some.injEq, Addr.mk.injEq, and_true, true_and] at h'
    omega
theorem smalls_of_good {zs : List ByteArray} (h : good (strs zs) = true) : Smalls zs := by
  intro z hz
  have := nameOk_len (good_all h z.data.toList (List.mem_map.2 ⟨z, hz, rfl⟩))
  rw [Lib.size_eq]; omega
theorem Smalls.take {zs : List ByteArray} (h : Smalls zs) (k : Nat) : Smalls (zs.take k) := fun z hz => h z (List.mem_of_mem_take hz)
/-- What both ParentOf functions answer. -/
def PaPost (s : ByteArray) (w : World) (e : Ending) (w' : World) : Prop := Below w.heap.size w w' ∧
  e = .returned (.tuple #[.string (strB (parentOf s.data.toList).1), .string (strB (parentOf s.data.toList).2.1), .bool (parentOf s.data.toList).2.2])
theorem pa_none {l : Str} (h : splitOf l = none) : parentOf l = ([], [], false) := by unfold parentOf; rw [h]
theorem pa_nil {l : Str} (h : splitOf l = some []) : parentOf l = ([], [], false) := by unfold parentOf; rw [h]; rfl
theorem pa_some {l : Str} {zs : List ByteArray} (h : splitOf l = some (strs zs)) (h0 : 1 ≤ zs.length) : parentOf l = (joinOf (strs (zs.take (zs.length - 1))), (zs.getD (zs.length - 1) ⟨#[]⟩).data.toList, true) := by
  unfold parentOf
  rw [h]
  have hne : strs zs ≠ [] := by
    intro e
    have h2 : (strs zs).length = 0 := by rw [e]; rfl
    rw [strs_length] at h2
    omega
  simp only [if_neg hne]
  refine Prod.ext ?_ (Prod.ext ?_ rfl)
  · simp [strs, List.dropLast_eq_take, List.map_take]
  · simp only [strs, List.getLastD_eq_getLast?, List.getLast?_eq_getElem?, List.length_map, List.getElem?_map]
    rw [List.getElem?_eq_getElem (by omega)]
    simp [show zs.length - 1 < zs.length by omega]
set_option maxHeartbeats 1000000 in
theorem parentI (s : ByteArray) (w : World) (hs : s.size ≤ 4000000) : Calls Tryz.prog 224 #[.string s] w (PaPost s w) := by
  cases hsp : splitOf s.data.toList with
  | none =>
    have hpa : Hid (parentOf s.data.toList = ([], [], false)) := pa_none hsp
    have hsp' : Hid (splitOf s.data.toList = none) := hsp
    clear hsp
    go_enter Tryz.func224, Tryz.ntmps224
    go_wp2_with fail
    refine (splitI s w hs).mono ?_
    intro e w1 h1
    obtain ⟨hb1, a1, c1, rfl⟩ := h1.no hsp'.out
    clear h1
    go_wp2
    go_ret3
    exact ⟨hb1, by rw [hpa.out]; rfl⟩
  | some ps =>
    obtain ⟨zs, hzs, hz30⟩ := split_strs hsp
    have hsm := smalls_of_good (split_good hzs)
    have hsp' : Hid (splitOf s.data.toList = some (strs zs)) := hzs
    clear hsp
    obtain ⟨n, hn⟩ : ∃ n, zs.length = n := ⟨_, rfl⟩
    by_cases h0 : n = 0
    · subst h0
      obtain rfl : zs = [] := List.length_eq_zero_iff.1 hn
      have hpa : Hid (parentOf s.data.toList = ([], [], false)) := pa_nil hzs
      clear hzs hn
      go_enter Tryz.func224, Tryz.ntmps224
      go_wp2_with fail
      refine (splitI s w hs).mono ?_
      intro e w1 h1
      obtain ⟨hb1, g1, c1, rfl, hg1, ho1⟩ := h1.yes hsp'.out
      clear h1
      go_wp2
      go_ret3
      exact ⟨hb1, by rw [hpa.out]; rfl⟩
    · have hpa0 := pa_some hzs (by omega)
      rw [hn] at hpa0
      have hn' : Hid (zs.length = n) := hn
      have h0' : ¬ (n : Int) = 0 := by omega
      have h0b : ((n : Int) == 0) = false := by simpa using h0'
      obtain ⟨m, hm⟩ : ∃ m, n = m + 1 := ⟨n - 1, by omega⟩
      subst hm
      rw [Nat.add_sub_cancel] at hpa0
      have hm30 : m ≤ 30 := by omega
      obtain ⟨z, hz⟩ : ∃ z, zs.getD m ⟨#[]⟩ = z := ⟨_, rfl⟩
      rw [hz] at hpa0
      have hpa : Hid (parentOf s.data.toList = (joinOf (strs (zs.take m)), z.data.toList, true)) := hpa0
      have hz' : Hid (zs.getD m ⟨#[]⟩ = z) := hz
      clear hzs hpa0 hz
      go_enter Tryz.func224, Tryz.ntmps224
      go_wp2_with fail
      refine (splitI s w hs).mono ?_
      intro e w1 h1
      obtain ⟨hb1, g1, c1, rfl, hg1, ho1⟩ := h1.yes hsp'.out
      clear h1
      rw [hn'.out] at ho1 ⊢
      have hcap := ho1.cap
      have hcx := World.ownsRow.cellAt ho1 m (by omega)
      have hml : m < zs.length := by rw [hn'.out]; omega
      have hzm : zs[m] = z := by have := hz'.out; simpa [hml] using this
      simp only [List.getElem?_map, List.getElem?_eq_getElem hml, Option.map_some, hzm] at hcx
      have c1' : (0 : Int) ≤ (m : Int) := by omega
      have c2' : (m : Int) ≤ (c1 : Int) := by omega
      have c3' : (m : Int) < (m : Int) + 1 := by omega
      have hrd : RdS w1 (some ⟨g1, 0, none⟩) (zs.take m) := ho1.rd.take m
      have hJ : ∀ W : World, RdS W (some ⟨g1, 0, none⟩) (zs.take m) → Calls Tryz.prog 253 #[.slice (some ⟨g1, 0, none⟩) m c1] W fun e w' => e = .returned (.string (strB (joinOf (strs (zs.take m))))) ∧ w' = W := fun W hW => joinI _ m c1 (zs.take m) W (by simp; omega) (by omega) (hsm.take m) hW
      obtain ⟨T, hT⟩ : ∃ T, strB (joinOf (strs (zs.take m))) = T := ⟨_, rfl⟩
      rw [hT] at hJ
      clear hzm hml ho1 hz30 hn
      go_wp2
      go_quiet ((go_at_call 253; refine Calls.quiet_of_same (hJ _ ?_); exact hrd))
      go_wp2
      go_ret3
      refine ⟨below_drewN hb1 _, ?_⟩
      rw [hpa.out, ← hT]
      show _ = Ending.returned (.tuple #[_, .string (strB z.data.toList), _])
      rw [show strB z.data.toList = z from Lib.mk_data z]
      rfl
set_option maxHeartbeats 1000000 in
theorem parentS (s : ByteArray) (w : World) (hs : s.size ≤ 4000000) : Calls Tryz.prog 100 #[.string s] w (PaPost s w) := by
  cases hsp : splitOf s.data.toList with
  | none =>
    have hpa : Hid (parentOf s.data.toList = ([], [], false)) := pa_none hsp
    have hsp' : Hid (splitOf s.data.toList = none) := hsp
    clear hsp
    go_enter Tryz.func100, Tryz.ntmps100
    go_wp2_with fail
    refine (splitS s w hs).mono ?_
    intro e w1 h1
    obtain ⟨hb1, a1, c1, rfl⟩ := h1.no hsp'.out
    clear h1
    go_wp2
    go_ret3
    exact ⟨hb1, by rw [hpa.out]; rfl⟩
  | some ps =>
    obtain ⟨zs, hzs, hz30⟩ := split_strs hsp
    have hsm := smalls_of_good (split_good hzs)
    have hsp' : Hid (splitOf s.data.toList = some (strs zs)) := hzs
    clear hsp
    obtain ⟨n, hn⟩ : ∃ n, zs.length = n := ⟨_, rfl⟩
    by_cases h0 : n = 0
    · subst h0
      obtain rfl : zs = [] := List.length_eq_zero_iff.1 hn
      have hpa : Hid (parentOf s.data.toList = ([], [], false)) := pa_nil hzs
      clear hzs hn
      go_enter Tryz.func100, Tryz.ntmps100
      go_wp2_with fail
      refine (splitS s w hs).mono ?_
      intro e w1 h1
      obtain ⟨hb1, g1, c1, rfl, hg1, ho1⟩ := h1.yes hsp'.out
      clear h1
      go_wp2
      go_ret3
      exact ⟨hb1, by rw [hpa.out]; rfl⟩
    · have hpa0 := pa_some hzs (by omega)
      rw [hn] at hpa0
      have hn' : Hid (zs.length = n) := hn
      have h0' : ¬ (n : Int) = 0 := by omega
      have h0b : ((n : Int) == 0) = false := by simpa using h0'
      obtain ⟨m, hm⟩ : ∃ m, n = m + 1 := ⟨n - 1, by omega⟩
      subst hm
      rw [Nat.add_sub_cancel] at hpa0
      have hm30 : m ≤ 30 := by omega
      obtain ⟨z, hz⟩ : ∃ z, zs.getD m ⟨#[]⟩ = z := ⟨_, rfl⟩
      rw [hz] at hpa0
      have hpa : Hid (parentOf s.data.toList = (joinOf (strs (zs.take m)), z.data.toList, true)) := hpa0
      have hz' : Hid (zs.getD m ⟨#[]⟩ = z) := hz
      clear hzs hpa0 hz
      go_enter Tryz.func100, Tryz.ntmps100
      go_wp2_with fail
      refine (splitS s w hs).mono ?_
      intro e w1 h1
      obtain ⟨hb1, g1, c1, rfl, hg1, ho1⟩ := h1.yes hsp'.out
      clear h1
      rw [hn'.out] at ho1 ⊢
      have hcap := ho1.cap
      have hcx := World.ownsRow.cellAt ho1 m (by omega)
      have hml : m < zs.length := by rw [hn'.out]; omega
      have hzm : zs[m] = z := by have := hz'.out; simpa [hml] using this
      simp only [List.getElem?_map, List.getElem?_eq_getElem hml, Option.map_some, hzm] at hcx
      have c1' : (0 : Int) ≤ (m : Int) := by omega
      have c2' : (m : Int) ≤ (c1 : Int) := by omega
      have c3' : (m : Int) < (m : Int) + 1 := by omega
      have hrd : RdS w1 (some ⟨g1, 0, none⟩) (zs.take m) := ho1.rd.take m
      have hJ : ∀ W : World, RdS W (some ⟨g1, 0, none⟩) (zs.take m) → Calls Tryz.prog 149 #[.slice (some ⟨g1, 0, none⟩) m c1] W fun e w' => e = .returned (.string (strB (joinOf (strs (zs.take m))))) ∧ w' = W := fun W hW => joinS _ m c1 (zs.take m) W (by simp; omega) (by omega) (hsm.take m) hW
      obtain ⟨T, hT⟩ : ∃ T, strB (joinOf (strs (zs.take m))) = T := ⟨_, rfl⟩
      rw [hT] at hJ
      clear hzm hml ho1 hz30 hn
      go_wp2
      go_quiet ((go_at_call 149; refine Calls.quiet_of_same (hJ _ ?_); exact hrd))
      go_wp2
      go_ret3
      refine ⟨below_drewN hb1 _, ?_⟩
      rw [hpa.out, ← hT]
      show _ = Ending.returned (.tuple #[_, .string (strB z.data.toList), _])
      rw [show strB z.data.toList = z from Lib.mk_data z]
      rfl
end
end Go.Proofs.YtnfplimhhjpbkaaGreatDoor
