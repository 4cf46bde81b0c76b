/-
  What SplitPath of the specification answers, at every text; and the rows of texts: read, compared, marked, copied.
-/
import Derived.Test.YtgdloohafkanhaaSplit
namespace Go.Proofs.Ytgdloohafkanhaa
open Go.RowKit

theorem gr_refl (w : World) (r : Option Nat) : w.grownBy w r := ⟨rfl, rfl, rfl, Nat.le_refl _, fun _ _ _ => rfl⟩

theorem OwnS.len {w : World} {g n cap : Nat} {zs : List ByteArray} (h : OwnS w g n cap zs) : zs.length = n := by simpa using h.1
theorem OwnS.lt {w : World} {g n cap : Nat} {zs : List ByteArray} (h : OwnS w g n cap zs) : g < w.heap.size := (World.ownsRow.lt h g rfl).2
theorem OwnS.keep {w w' : World} {g n cap : Nat} {zs : List ByteArray} (h : OwnS w g n cap zs) (hb : Below w.heap.size w w') : OwnS w' g n cap zs := row_below hb h
theorem OwnS.kept {w w' : World} {g n c g2 : Nat} {zs : List ByteArray} (h : OwnS w g n c zs) (hg : w.grownBy w' (some g2)) (hne : g ≠ g2) : OwnS w' g n c zs :=
  World.ownsRow.kept h hg (.inr (by simp [Value.ownBlock, hne]))
theorem OwnS.alloc {w : World} {g n c : Nat} {zs : List ByteArray} (h : OwnS w g n c zs) (o : Obj) : OwnS (w.alloc o) g n c zs := World.ownsRow.alloc h o
theorem ownS_empty (w : World) : OwnS (w.alloc (.cells #[] 9)) w.heap.size 0 0 [] :=
  World.ownsRow_made (base := 0) (e := 9) (size := 1) w #[] 0 (Nat.zero_le _) (by unfold maxLen; omega) rfl

/-- The texts zs can be read from the address a on. -/
def RdS (w : World) (a : Option Addr) (zs : List ByteArray) : Prop :=
  zs = [] ∨ ∃ b off, a = some ⟨b, off, none⟩ ∧ ∀ i, i < zs.length → w.cell? ⟨b, off + i, none⟩ = some (.string (zs.getD i ⟨#[]⟩))

theorem RdS.lt {w : World} {a : Option Addr} {zs : List ByteArray} (h : RdS w a zs) (hz : zs ≠ []) : ∃ b off, a = some ⟨b, off, none⟩ ∧ b < w.heap.size ∧ ∀ i, i < zs.length → w.cell? ⟨b, off + i, none⟩ = some (.string (zs.getD i ⟨#[]⟩)) := by
  rcases h with h | ⟨b, off, rfl, hc⟩
  · exact absurd h hz
  · exact ⟨b, off, rfl, World.block_lt_of_cell? w _ (hc 0 (List.length_pos_iff.2 hz)), hc⟩
theorem RdS.keep {w w' : World} {a : Option Addr} {zs : List ByteArray} (h : RdS w a zs) (hb : Below w.heap.size w w') : RdS w' a zs := by
  by_cases hz : zs = []
  · exact .inl hz
  · obtain ⟨b, off, rfl, hlt, hc⟩ := h.lt hz
    refine .inr ⟨b, off, rfl, fun i hi => ?_⟩
    rw [hb.cell (p := ⟨b, off + i, none⟩) hlt]
    exact hc i hi
theorem OwnS.rd {w : World} {g n cap : Nat} {zs : List ByteArray} (h : OwnS w g n cap zs) : RdS w (some ⟨g, 0, none⟩) zs := by
  refine .inr ⟨g, 0, rfl, fun i hi => ?_⟩
  have hn := h.len
  have := World.ownsRow.cellAt h i (by omega)
  rw [Nat.zero_add, this]
  simp [hi]
theorem RdS.take {w : World} {a : Option Addr} {zs : List ByteArray} (h : RdS w a zs) (k : Nat) : RdS w a (zs.take k) := by
  rcases h with h | ⟨b, off, rfl, hc⟩
  · exact .inl (by rw [h]; simp)
  · refine .inr ⟨b, off, rfl, fun i hi => ?_⟩
    simp only [List.length_take] at hi
    rw [hc i (by omega)]
    have : i < k := by omega
    simp [this]

/-- An append of one text onto a row of the call's own: the new slice written out. -/
theorem appS (w : World) {ops : Array Oper} {rest : List Oper} {o : Oper} {a : Act} {Q : Exit → Act → World → Prop} (hgd : o.guard = none) (s x : Operand)
    (ho : o.op = .call { callee := .builtin .append, args := #[s, x], argTypes := #[24, 24] })
    (g k c : Nat) (zs : List ByteArray) (hs : a.eval s = .slice (some ⟨g, 0, none⟩) k c) (hown : OwnS w g k c zs)
    (ad : Nat) (z : ByteArray) (hx : a.eval x = .slice (some ⟨ad, 0, none⟩) 1 1) (hcell : w.cell? ⟨ad, 0, none⟩ = some (.string z)) (hk : k ≤ 1000000) (H : Nat) (hH : w.heap.size = H)
    (h : ∀ g' c' w', OwnS w' g' (k + 1) c' (zs ++ [z]) → w.grownBy w' (some g) → (g' = g ∨ g' = H) → wpList Try.prog ops Q rest (a.put o.dst (.slice (some ⟨g', 0, none⟩) (k + 1) c')) w') :
    wpList Try.prog ops Q (o :: rest) a w := by
  obtain ⟨i0, hi, hz0, hz1, hz2⟩ := info_parts Try.info9
  refine wpList_append_own_at w hgd s x 24 ho 0 9 i0 (.string ⟨#[]⟩) 1 16 Try.underlying24 hi hz0 hz1 hz2 rfl (by decide) _ k (zs.map Value.string) hs hown ⟨ad, 0, none⟩ 1 1 [.string z] hx rfl ?_ (by simp [Value.oneCell']) (by unfold maxLen; omega) (by omega) (Nat.zero_le _) ?_
  · intro j u hj
    cases j with
    | zero => simp at hj; subst hj; simpa [Addr.add] using hcell
    | succ j => simp at hj
  · intro v' w' h1 h2 _ h4
    obtain ⟨g', c', rfl⟩ := ownsRow_succ h1
    refine h g' c' w' ?_ h2 ?_
    · unfold OwnS; rw [List.map_append]; exact h1
    · rcases h4 with h4 | h4
      · left; simpa [Value.ownBlock] using h4
      · right; rw [← hH]; simpa [Value.ownBlock] using h4

theorem strs_snoc (zs : List ByteArray) (z : ByteArray) : strs (zs ++ [z]) = strs zs ++ [z.data.toList] := by simp [strs]
theorem strs_length (zs : List ByteArray) : (strs zs).length = zs.length := by simp [strs]

theorem spGo_skip {l : Str} {f i b : Nat} (out : List Str) (h : i < l.length ∧ l.getD i 0 ≠ 47) : spGo l (f + 1) i b out = spGo l f (i + 1) b out := by
  conv => lhs; unfold spGo
  rw [if_pos h]
theorem spGo_first {l : Str} {f b : Nat} (out : List Str) (h : ¬ (0 < l.length ∧ l.getD 0 0 ≠ 47)) : spGo l (f + 1) 0 b out = spGo l f (0 + 1) (0 + 1) out := by
  conv => lhs; unfold spGo
  rw [if_neg h, if_pos rfl]
theorem spGo_bad {l : Str} {f i b : Nat} (out : List Str) (h : ¬ (i < l.length ∧ l.getD i 0 ≠ 47)) (h0 : i ≠ 0) (hb : nameOk ((l.take i).drop b) = false ∨ out.length = 30) : spGo l (f + 1) i b out = none := by
  conv => lhs; unfold spGo
  rw [if_neg h, if_neg h0, if_pos hb]
theorem spGo_name {l : Str} {f i b : Nat} (out : List Str) (h : ¬ (i < l.length ∧ l.getD i 0 ≠ 47)) (h0 : i ≠ 0) (hb : ¬ (nameOk ((l.take i).drop b) = false ∨ out.length = 30)) : spGo l (f + 1) i b out = spGo l f (i + 1) (i + 1) (out ++ [(l.take i).drop b]) := by
  conv => lhs; unfold spGo
  rw [if_neg h, if_neg h0, if_neg hb]

set_option maxRecDepth 100000 in
set_option maxHeartbeats 2000000 in
theorem splitS (s : ByteArray) (w : World) (hs : s.size ≤ 4000000) : Calls Try.prog 16 #[.string s] w (SpPost s w) := by
  have htl := Lib.toList_data s
  have hsz := Lib.size_eq s
  by_cases h1 : s.toList = [47]
  · have hb : (s.toList == [47]) = true := by rw [h1]; rfl
    have hsp : Hid (splitOf s.data.toList = some []) := by show _ = _; rw [← htl, h1]; decide
    clear htl hsz h1
    go_enter Try.func16, Try.ntmps16
    go_wp2
    go_ret2
    exact ⟨(Below.refl _ w).alloc (Nat.le_refl _) _, .inr ⟨[], _, _, hsp.out, rfl, Nat.le_refl _, ownS_empty w⟩⟩
  · have hb : (s.toList == [47]) = false := by simpa using h1
    have hsp : Hid _ := spec_split s.data.toList (by rw [← htl]; exact h1)
    have hsz' : Hid (s.size = s.data.toList.length) := hsz
    clear htl hsz h1
    go_enter Try.func16, Try.ntmps16
    go_wp2
    go_loopw [4, 5, 6] (fun v b i wr => ∃ (k bg g c : Nat) (zs : List ByteArray), v = .slice (some ⟨g, 0, none⟩) zs.length c ∧ b = .int .i64 bg ∧ i = .int .i64 k ∧ k ≤ s.size + 1 ∧ bg ≤ k ∧ zs.length ≤ 30 ∧ w.heap.size ≤ g ∧ OwnS wr g zs.length c zs ∧ Below w.heap.size w wr ∧
        Hid (spGo s.data.toList (s.data.toList.length + 1) 0 0 [] = spGo s.data.toList (s.size + 1 - k) k bg (strs zs))) (fun _ _ i _ => s.size + 1 - (intOf i).toNat)
    case atStart => exact ⟨0, 0, w.heap.size, 0, [], rfl, rfl, rfl, Nat.zero_le _, Nat.le_refl _, by simp, Nat.le_refl _, ownS_empty w, (Below.refl _ w).alloc (Nat.le_refl _) _, by rw [hsz'.out]; rfl⟩
    case round =>
      obtain ⟨k, bg, g, c, zs, rfl, rfl, rfl, hk, hbk, hzl, hg, ho, hB, hgo⟩ := hrel
      by_cases hkn : k ≤ s.size
      · have hki : (k : Int) ≤ (s.size : Int) := by omega
        obtain ⟨f, hf⟩ : ∃ f, s.size + 1 - k = f + 1 := ⟨s.size - k, by omega⟩
        have hf' : s.size + 1 - (k + 1) = f := by omega
        rw [hf] at hgo
        by_cases hskip : k < s.size ∧ byt s k ≠ 47
        · have hkl : (k : Int) < (s.size : Int) := by omega
          have hb0 := byt_get s k hskip.1
          obtain ⟨v, hv⟩ : ∃ v, (byt s k).toNat = v := ⟨_, rfl⟩
          have hbv : s[k].toNat = v := by rw [hb0]; exact hv
          have hv47 : ¬ (v : Int) = 47 := by
            intro e
            exact hskip.2 (UInt8.toNat_inj.1 (by rw [hv]; show v = 47; omega))
          have hvb : ((v : Int) == 47) = false := by simpa using hv47
          have hgo' : Hid (spGo s.data.toList (s.data.toList.length + 1) 0 0 [] = spGo s.data.toList (s.size + 1 - (k + 1)) (k + 1) bg (strs zs)) := by
            show _ = _
            rw [hgo.out, hf', spGo_skip _ ⟨by rw [← hsz'.out]; exact hskip.1, hskip.2⟩]
          clear hb0 hv hgo hf hf'
          go_wp2
          go_roundw
          case rel => exact ⟨k + 1, bg, g, c, zs, rfl, rfl, by go_num, by omega, by omega, hzl, hg, ho, hB, hgo'⟩
          case measure => simp [intOf]; omega
        · have hns : ¬ (k < s.data.toList.length ∧ s.data.toList.getD k 0 ≠ 47) := by rw [← hsz'.out]; exact hskip
          by_cases hk0 : k = 0
          · subst hk0
            obtain rfl : bg = 0 := by omega
            have hgo' : Hid (spGo s.data.toList (s.data.toList.length + 1) 0 0 [] = spGo s.data.toList (s.size + 1 - (0 + 1)) (0 + 1) (0 + 1) (strs zs)) := by
              show _ = _
              rw [hgo.out, hf', spGo_first _ hns]
            by_cases hkl : 0 < s.size
            · have hkl' : (0 : Int) < (s.size : Int) := by omega
              have hb0 := byt_get s 0 hkl
              have hv47 : byt s 0 = 47 := by
                by_cases h : byt s 0 = 47
                · exact h
                · exact absurd ⟨hkl, h⟩ hskip
              have hbv : s[0].toNat = 47 := by rw [hb0, hv47]; rfl
              clear hb0 hv47 hgo hf hf'
              go_wp2
              go_roundw
              case rel => exact ⟨1, 1, g, c, zs, rfl, rfl, by go_num, by omega, by omega, hzl, hg, ho, hB, hgo'⟩
              case measure => simp [intOf]
            · have hkl' : ¬ (0 : Int) < (s.size : Int) := by omega
              clear hgo hf hf'
              go_wp2
              go_roundw
              case rel => exact ⟨1, 1, g, c, zs, rfl, rfl, by go_num, by omega, by omega, hzl, hg, ho, hB, hgo'⟩
              case measure => simp [intOf]
          · have hk0' : (0 : Int) < (k : Int) := by omega
            have hex : (s.extract bg k).data.toList = (s.data.toList.take k).drop bg := by rw [Lib.extract_data, List.drop_take]
            have c1 : (0 : Int) ≤ (bg : Int) := by omega
            have c2 : (bg : Int) ≤ (k : Int) := by omega
            obtain ⟨z, hz⟩ : ∃ z, s.extract bg k = z := ⟨_, rfl⟩
            have hzs : z.size ≤ 4000000 := by
              rw [Lib.size_eq, ← hz, hex]; simp; omega
            have hbad : Hid (nameOk z.data.toList = false ∨ zs.length = 30 → spGo s.data.toList (s.data.toList.length + 1) 0 0 [] = none) := by
              intro h
              rw [hgo.out, spGo_bad _ hns hk0 (by rw [← hex, hz, strs_length]; exact h)]
            have hgood : Hid (¬ (nameOk z.data.toList = false ∨ zs.length = 30) → spGo s.data.toList (s.data.toList.length + 1) 0 0 [] = spGo s.data.toList (s.size + 1 - (k + 1)) (k + 1) (k + 1) (strs (zs ++ [z]))) := by
              intro h
              rw [hgo.out, hf', spGo_name _ hns hk0 (by rw [← hex, hz, strs_length]; exact h), strs_snoc, ← hex, hz]
            clear hgo hex hns hf hf'
            by_cases hkl : k < s.size
            · have hkl' : (k : Int) < (s.size : Int) := by omega
              have hb0 := byt_get s k hkl
              have hv47 : byt s k = 47 := by
                by_cases h : byt s k = 47
                · exact h
                · exact absurd ⟨hkl, h⟩ hskip
              have hbv : s[k].toNat = 47 := by rw [hb0, hv47]; rfl
              clear hb0 hv47 hskip
              go_wp2_with fail
              refine (nameS z _ hzs).mono ?_
              rintro e w1 ⟨rfl, hw⟩
              obtain rfl := hw.symm
              cases hnm : nameOk z.data.toList with
              | false =>
                have hbd : Hid (spGo s.data.toList (s.data.toList.length + 1) 0 0 [] = none) := hbad.out (.inl hnm)
                go_wp2
                go_ret2
                exact ⟨hB.trans ((Below.refl _ wr).alloc hB.size _), .inl ⟨by rw [← hsp.out, hbd.out], _, _, rfl⟩⟩
              | true =>
                by_cases h30 : zs.length = 30
                · have h30' : (zs.length : Int) = 30 := by omega
                  have hbd : Hid (spGo s.data.toList (s.data.toList.length + 1) 0 0 [] = none) := hbad.out (.inr h30)
                  go_wp2
                  go_ret2
                  exact ⟨hB.trans ((Below.refl _ wr).alloc hB.size _), .inl ⟨by rw [← hsp.out, hbd.out], _, _, rfl⟩⟩
                · have h30' : ¬ (zs.length : Int) = 30 := by omega
                  have h30b : ((zs.length : Int) == 30) = false := by simpa using h30'
                  have hgd : Hid _ := hgood.out (by rw [hnm]; intro h; rcases h with h | h; · simp at h
                                                    · exact h30 h)
                  go_wp2_with (at_builtin; refine appS _ rfl (.tmp 43) (.tmp 45) rfl g zs.length c zs rfl (ho.alloc _) wr.heap.size z rfl (Boxed.new wr 9 (.string z)).cell (by omega) (wr.heap.size + 1) (by simp) ?_; intro g3 c3 w3 ho3 hg3 ha3)
                  go_roundw
                  case rel =>
                    have hwz := hB.size
                    exact ⟨k + 1, k + 1, g3, c3, zs ++ [z], by simp, by go_num, by go_num, by omega, by omega, by simp; omega, by omega, by simpa using ho3, (hB.trans ((Below.refl _ wr).alloc hB.size _)).trans ((Below.refl _ _).grown hg3 (by simp; omega) (by intro j hj; simp at hj; omega)), hgd⟩
                  case measure => simp [intOf]; omega
            · have hkl' : ¬ (k : Int) < (s.size : Int) := by omega
              clear hskip
              go_wp2_with fail
              refine (nameS z _ hzs).mono ?_
              rintro e w1 ⟨rfl, hw⟩
              obtain rfl := hw.symm
              cases hnm : nameOk z.data.toList with
              | false =>
                have hbd : Hid (spGo s.data.toList (s.data.toList.length + 1) 0 0 [] = none) := hbad.out (.inl hnm)
                go_wp2
                go_ret2
                exact ⟨hB.trans ((Below.refl _ wr).alloc hB.size _), .inl ⟨by rw [← hsp.out, hbd.out], _, _, rfl⟩⟩
              | true =>
                by_cases h30 : zs.length = 30
                · have h30' : (zs.length : Int) = 30 := by omega
                  have hbd : Hid (spGo s.data.toList (s.data.toList.length + 1) 0 0 [] = none) := hbad.out (.inr h30)
                  go_wp2
                  go_ret2
                  exact ⟨hB.trans ((Below.refl _ wr).alloc hB.size _), .inl ⟨by rw [← hsp.out, hbd.out], _, _, rfl⟩⟩
                · have h30' : ¬ (zs.length : Int) = 30 := by omega
                  have h30b : ((zs.length : Int) == 30) = false := by simpa using h30'
                  have hgd : Hid _ := hgood.out (by rw [hnm]; intro h; rcases h with h | h; · simp at h
                                                    · exact h30 h)
                  go_wp2_with (at_builtin; refine appS _ rfl (.tmp 43) (.tmp 45) rfl g zs.length c zs rfl (ho.alloc _) wr.heap.size z rfl (Boxed.new wr 9 (.string z)).cell (by omega) (wr.heap.size + 1) (by simp) ?_; intro g3 c3 w3 ho3 hg3 ha3)
                  go_roundw
                  case rel =>
                    have hwz := hB.size
                    exact ⟨k + 1, k + 1, g3, c3, zs ++ [z], by simp, by go_num, by go_num, by omega, by omega, by simp; omega, by omega, by simpa using ho3, (hB.trans ((Below.refl _ wr).alloc hB.size _)).trans ((Below.refl _ _).grown hg3 (by simp; omega) (by intro j hj; simp at hj; omega)), hgd⟩
                  case measure => simp [intOf]; omega
      · have hki : ¬ (k : Int) ≤ (s.size : Int) := by omega
        have hend : Hid (spGo s.data.toList (s.data.toList.length + 1) 0 0 [] = some (strs zs)) := by
          show _ = _
          rw [hgo.out, show s.size + 1 - k = 0 by omega]
          rfl
        clear hgo
        by_cases h0 : s.size = 0
        · have h0' : (s.size : Int) = 0 := by omega
          have hno : Hid (splitOf s.data.toList = none) := by
            show _ = _
            rw [← hsp.out, hend.out]
            exact if_pos (.inl (by rw [← hsz'.out]; exact h0))
          go_wp2
          go_ret2
          exact ⟨hB.trans ((Below.refl _ wr).alloc hB.size _), .inl ⟨hno.out, _, _, rfl⟩⟩
        · have h0' : ¬ (s.size : Int) = 0 := by omega
          have h0b : ((s.size : Int) == 0) = false := by simpa using h0'
          have hp0 : (0 : Int) < (s.size : Int) := by omega
          have hb0 := byt_get s 0 (by omega)
          obtain ⟨v, hv⟩ : ∃ v, (byt s 0).toNat = v := ⟨_, rfl⟩
          have hbv : s[0].toNat = v := by rw [hb0]; exact hv
          by_cases hv47 : v = 47
          · subst hv47
            have hyes : Hid (splitOf s.data.toList = some (strs zs)) := by
              show _ = _
              rw [← hsp.out, hend.out]
              refine if_neg ?_
              rintro (h | h)
              · rw [← hsz'.out] at h; exact h0 h
              · exact h (UInt8.toNat_inj.1 hv)
            clear hb0 hv
            go_wp2
            go_ret2
            exact ⟨hB, .inr ⟨zs, g, c, hyes.out, rfl, hg, ho⟩⟩
          · have hv' : ¬ (v : Int) = 47 := by omega
            have hvb : ((v : Int) == 47) = false := by simpa using hv'
            have hno : Hid (splitOf s.data.toList = none) := by
              show _ = _
              rw [← hsp.out, hend.out]
              refine if_pos (.inr ?_)
              intro h
              apply hv47
              rw [← hv]
              show (s.data.toList.getD 0 0).toNat = 47
              rw [h]; rfl
            clear hb0 hv
            go_wp2
            go_ret2
            exact ⟨hB.trans ((Below.refl _ wr).alloc hB.size _), .inl ⟨hno.out, _, _, rfl⟩⟩
end Go.Proofs.Ytgdloohafkanhaa
