/-
  Joined: SortS, RowP, Spot6.
-/
import Derived.Test.YtgcmpimckpnemaaA10T
namespace Go.Proofs.Ytgcmpimckpnemaa
section
open Go.RowKit
def sV (zs : List ByteArray) : List Value := zs.map Value.string
theorem sV_len (zs : List ByteArray) : (sV zs).length = zs.length := by simp [sV]
theorem sV_at {zs : List ByteArray} {k : Nat} {z : ByteArray} (h : zs[k]? = some z) : (sV zs)[k]? = some (.string z) := by simp [sV, h]
theorem sV_one (zs : List ByteArray) : ∀ u ∈ sV zs, u.oneCell' = true := fun u hu => by obtain ⟨z, _, rfl⟩ := List.mem_map.1 hu; rfl
theorem sortS_snoc (l : List ByteArray) (z : ByteArray) : sortS (l ++ [z]) = insBy (gtS z) (sortS l) z := by
  unfold sortS
  rw [List.foldl_append]
  rfl
theorem sortS_len (l : List ByteArray) : (sortS l).length = l.length := by
  have h : ∀ (l o : List ByteArray), (l.foldl (fun o z => insBy (gtS z) o z) o).length = o.length + l.length := by
    intro l
    induction l with
    | nil => intro o; rfl
    | cons z l ih => intro o; rw [List.foldl_cons, ih, insBy_len, List.length_cons]; omega
  have := h l []
  simpa [sortS] using this
theorem sortS_mem (l : List ByteArray) (z : ByteArray) : z ∈ sortS l ↔ z ∈ l := by
  have h : ∀ (l o : List ByteArray), z ∈ (l.foldl (fun o z => insBy (gtS z) o z) o) ↔ z ∈ o ∨ z ∈ l := by
    intro l
    induction l with
    | nil => intro o; simp
    | cons y l ih =>
      intro o
      rw [List.foldl_cons, ih, insBy_mem, List.mem_cons]
      constructor
      · rintro ((h | h) | h)
        · exact .inr (.inl h)
        · exact .inl h
        · exact .inr (.inr h)
      · rintro (h | h | h)
        · exact .inl (.inr h)
        · exact .inl (.inl h)
        · exact .inr h
  have := h l []
  simpa [sortS] using this
set_option maxRecDepth 100000 in
set_option maxHeartbeats 4000000 in
theorem l7SortS (a : Option Addr) (n cap : Nat) (zs : List ByteArray) (w : World) (hn : zs.length = n) (hs : n ≤ 4000000) (hr : RdV w a (sV zs)) :
    Calls Try.prog 165 #[.slice a n cap] w fun e w' => ∃ g c, e = .returned (.slice (some ⟨g, 0, none⟩) n c) ∧ w'.ownsRow w.heap.size 9 1 (.slice (some ⟨g, 0, none⟩) n c) n (sV (sortS zs)) ∧ Below w.heap.size w w' := by
  have hn' : Hid (zs.length = n) := hn
  obtain ⟨i0, hi, hz0, hz1, hz2⟩ := info_parts Try.info9
  have hfr := fun ty => fresh_vals (w.alloc (.cells #[] 9)) w.heap.size w.heap.size 88 9 i0 (.string ⟨#[]⟩) 16 Try.underlying88 hi hz0 hz1 hz2 rfl (by omega) a n cap (sV zs) (by rw [sV_len, hn]) (by omega) (sV_one zs) (Nat.le_refl _) (empty_row w w.heap.size 9 1 (Nat.le_refl _)) (hr.keep ((Below.refl _ w).alloc (Nat.le_refl _) _)) ty
  have BA : Below w.heap.size w (w.alloc (.cells #[] 9)) := (Below.refl _ w).alloc (Nat.le_refl _) _
  have HF : Hid _ := hfr
  clear hn hr hfr
  go_enter Try.func165, Try.ntmps165
  go_wp2_with (at_builtin; refine wpList_fresh _ rfl (.tmp 7) (.tmp 8) 88 rfl w.heap.size w.heap.size a n cap 9 1 (sV zs) rfl rfl HF.out ?_; intro g1 c1 W1 o1 hg1 hl1 hb1)
  have hbW : Below w.heap.size w W1 := BA.trans (hb1.mono BA.size)
  clear HF BA hb1 hi hz0 hz1 hz2
  have o1' : W1.ownsRow w.heap.size 9 1 (.slice (some ⟨g1, 0, none⟩) n c1) n (sV (sortS (zs.take 1) ++ zs.drop 1)) := by
    have e : sortS (zs.take 1) ++ zs.drop 1 = zs := by
      cases zs with
      | nil => rfl
      | cons z l => rfl
    rw [e]
    exact o1
  clear o1
  by_cases hn0 : n = 0
  · subst hn0
    have e : zs = [] := List.length_eq_zero_iff.1 hn'.out
    subst e
    have HD : Hid _ := And.intro o1' hbW
    clear o1' hbW
    go_wp2
    refine wp_loop_rounds 1 ?_; rw [rounds_succ]
    go_wp2
    go_ret
    first | exact ⟨g1, c1, rfl, HD.out⟩ | exact ⟨_, ⟨_, rfl⟩, HD.out⟩
  · go_wp2
    go_loopw [4] (fun i wr => ∃ k : Nat, 1 ≤ k ∧ k ≤ n ∧ i = .int .i64 k ∧ wr.ownsRow w.heap.size 9 1 (.slice (some ⟨g1, 0, none⟩) n c1) n (sV (sortS (zs.take k) ++ zs.drop k)) ∧ Below w.heap.size w wr) (fun i _ => n - (intOf i).toNat)
    case atStart => exact ⟨1, Nat.le_refl _, by omega, rfl, o1', hbW⟩
    case round =>
      obtain ⟨k, hk1, hk, rfl, ho, hb⟩ := hrel
      clear o1' hbW
      by_cases hkn : k < n
      · have hki : (k : Int) < (n : Int) := by omega
        have hk0 : (0 : Int) ≤ (k : Int) := by omega
        have hkl : k < zs.length := by rw [hn'.out]; exact hkn
        obtain ⟨S, hS⟩ : ∃ S, sortS (zs.take k) = S := ⟨_, rfl⟩
        have hSl : Hid (S.length = k) := by show _ = _; rw [← hS, sortS_len]; simp; omega
        obtain ⟨x, hx⟩ : ∃ x, zs[k]? = some x := ⟨_, List.getElem?_eq_getElem hkl⟩
        have hxe : zs.drop k = x :: zs.drop (k + 1) := by
          rw [List.drop_eq_getElem_cons hkl, (List.getElem?_eq_some_iff.1 hx).2]
        obtain ⟨T, hT⟩ : ∃ T, zs.drop (k + 1) = T := ⟨_, rfl⟩
        rw [hT] at hxe
        rw [hS, hxe] at ho
        have hck := World.ownsRow.cellAt ho k (by omega)
        rw [sV_at (z := x) (by rw [List.getElem?_append_right (by rw [hSl.out]; omega), hSl.out, Nat.sub_self]; rfl)] at hck
        have hnx : Hid (sortS (zs.take (k + 1)) ++ zs.drop (k + 1) = insBy (gtS x) S x ++ T) := by
          show _ = _
          rw [List.take_add_one, hx, hT, ← hS]
          show sortS (zs.take k ++ [x]) ++ T = _
          rw [sortS_snoc]
        have hTl : Hid (k + 1 + T.length = n) := by
          show _ = _
          rw [← hT, List.length_drop, hn'.out]
          omega
        have ho' : wr.ownsRow w.heap.size 9 1 (.slice (some ⟨g1, 0, none⟩) n c1) n (sV ((S.take k ++ x :: S.drop k) ++ T)) := by
          have e : (S.take k ++ x :: S.drop k) ++ T = S ++ x :: T := by
            rw [List.take_of_length_le (by rw [hSl.out]; omega), List.drop_of_length_le (by rw [hSl.out]; omega)]
            simp
          rw [e]
          exact ho
        clear ho hxe hx hS hT
        go_wp2
        clear hck
        go_loopw [6] (fun j wi => ∃ (p : Nat) (u : ByteArray), p ≤ k ∧ j = .int .i64 p ∧ wi.ownsRow w.heap.size 9 1 (.slice (some ⟨g1, 0, none⟩) n c1) n (sV ((S.take p ++ u :: S.drop p) ++ T)) ∧ Below w.heap.size w wi ∧ Hid (∀ y ∈ S.drop p, gtS x y = true)) (fun j _ => (intOf j).toNat)
        case atStart => exact ⟨k, x, Nat.le_refl _, rfl, ho', hb, fun y hy => by rw [List.drop_of_length_le (by rw [hSl.out]; omega)] at hy; simp at hy⟩
        case round =>
          obtain ⟨p, u, hp, rfl, hoi, hbi, hgt⟩ := hrel
          clear ho' hb
          have hpS : p ≤ S.length := by rw [hSl.out]; exact hp
          have hlen := hole_len u hpS
          have fin : Hid (∀ W : World, W = wr.setCell ⟨g1, p, none⟩ (.string x) → (p = 0 ∨ ∃ y, S[p - 1]? = some y ∧ gtS x y = false) → W.ownsRow w.heap.size 9 1 (.slice (some ⟨g1, 0, none⟩) n c1) n (sV (sortS (zs.take (k + 1)) ++ zs.drop (k + 1))) ∧ Below w.heap.size w W) := by
            intro W hW hc
            subst hW
            have h1 := (World.ownsRow.stored hoi p (.string x)).1
            have e : (sV ((S.take p ++ u :: S.drop p) ++ T)).set p (.string x) = sV (sortS (zs.take (k + 1)) ++ zs.drop (k + 1)) := by
              rw [hnx.out, insBy_at hpS hgt.out hc]
              unfold sV
              rw [← List.map_set, List.set_append_left _ _ (by rw [hlen]; omega), hole_end u x hpS]
            rw [e] at h1
            exact ⟨h1, hbi.setCell (p := ⟨g1, p, none⟩) hg1 _⟩
          have hTn := hTl.out
          have hSn := hSl.out
          have hcp := World.ownsRow.cellAt hoi p (by omega)
          have hfp := World.ownsRow.frozenAt hoi p
          obtain ⟨V, hV⟩ : ∃ V, (sV ((S.take p ++ u :: S.drop p) ++ T))[p]? = some V := ⟨_, List.getElem?_eq_getElem (by rw [sV_len, List.length_append, hlen]; omega)⟩
          rw [hV] at hcp
          have hpn1 : (p : Int) < (n : Int) := by omega
          have hp0' : (0 : Int) ≤ (p : Int) := by omega
          have HTn : Hid _ := hTn
          have HSn : Hid _ := hSn
          clear hTn hSn
          rcases Nat.eq_zero_or_pos p with rfl | hpos
          · have HD : Hid _ := fin.out _ rfl (.inl rfl)
            clear fin hoi hbi hgt hV hlen
            go_wp2
            go_roundw
            case rel => exact ⟨k + 1, by omega, by omega, by go_num, HD.out⟩
            case measure => simp [intOf]; omega
          · obtain ⟨q, rfl⟩ : ∃ q, p = q + 1 := ⟨p - 1, by omega⟩
            have hql : q < S.length := by omega
            obtain ⟨y, hy⟩ : ∃ y, S[q]? = some y := ⟨_, List.getElem?_eq_getElem hql⟩
            have hcq := World.ownsRow.cellAt hoi q (by omega)
            rw [sV_at (z := y) (by rw [List.getElem?_append_left (by rw [hlen]; omega)]; exact hole_left u (Nat.lt_succ_self q) hpS hy)] at hcq
            have hgt0 : (0 : Int) < ((q + 1 : Nat) : Int) := by omega
            have hqn : (q : Int) < (n : Int) := by omega
            have hq0 : (0 : Int) ≤ (q : Int) := by omega
            have hsub : (((q + 1 : Nat) : Int) - 1) = (q : Int) := by omega
            cases hxy : gtS x y with
            | true =>
              have hst := (World.ownsRow.stored hoi (q + 1) (.string y)).1
              have e : (sV ((S.take (q + 1) ++ u :: S.drop (q + 1)) ++ T)).set (q + 1) (.string y) = sV ((S.take q ++ y :: S.drop q) ++ T) := by
                unfold sV
                rw [← List.map_set, List.set_append_left _ _ (by rw [hlen]; omega), hole_step u hy]
              rw [e] at hst
              have hb' := hbi.setCell (p := ⟨g1, q + 1, none⟩) hg1 (.string y)
              have hgt' : Hid (∀ z ∈ S.drop q, gtS x z = true) := fun z hz => by
                rcases drop_mem hy hz with rfl | hz
                · exact hxy
                · exact hgt.out z hz
              obtain ⟨hA, hB⟩ : Op.bytesLess y.toList x.toList = false ∧ (y.toList == x.toList) = false := by unfold gtS at hxy; simpa using hxy
              clear fin hoi hbi hgt hV hlen e hy hxy
              go_wp2
              go_roundw
              case rel => exact ⟨q, y, by omega, by go_num, hst, hb', hgt'⟩
              case measure => simp [intOf]
            | false =>
              have HD : Hid _ := fin.out _ rfl (.inr ⟨y, by rw [Nat.add_sub_cancel]; exact hy, hxy⟩)
              have hAB : Op.bytesLess y.toList x.toList = true ∨ (Op.bytesLess y.toList x.toList = false ∧ (y.toList == x.toList) = true) := by
                unfold gtS at hxy
                cases h1 : Op.bytesLess y.toList x.toList with
                | true => exact .inl rfl
                | false => rw [h1] at hxy; exact .inr ⟨rfl, by simpa using hxy⟩
              clear fin hoi hbi hgt hV hlen hy hxy
              rcases hAB with hA | ⟨hA, hB⟩
              · go_wp2
                go_roundw
                case rel => exact ⟨k + 1, by omega, by omega, by go_num, HD.out⟩
                case measure => simp [intOf]; omega
              · go_wp2
                go_roundw
                case rel => exact ⟨k + 1, by omega, by omega, by go_num, HD.out⟩
                case measure => simp [intOf]; omega
      · have hki : ¬ (k : Int) < (n : Int) := by omega
        have e : sortS (zs.take k) ++ zs.drop k = sortS zs := by
          rw [List.take_of_length_le (by rw [hn'.out]; omega), List.drop_of_length_le (by rw [hn'.out]; omega)]
          simp
        rw [e] at ho
        have HD : Hid _ := And.intro ho hb
        clear ho hb e
        go_wp2
        go_ret
        first | exact ⟨g1, c1, rfl, HD.out⟩ | exact ⟨_, ⟨_, rfl⟩, HD.out⟩
end

section
open Go.RowKit
/-- An append whose run is known, in a region that draws. -/
theorem step_run (W : World) {ops : Array Oper} {o : Oper} {a : Act} {K : Act → World → Prop} {Q : Exit → Act → World → Prop} {E : Prop} (hgd : o.guard = none) (s x : Operand) (t : TypeId)
    (ho : o.op = .call { callee := .builtin .append, args := #[s, x], argTypes := #[t, t] }) (v1 v2 : Value) (hs : a.eval s = v1) (hx : a.eval x = v2) (R : Value → World → Prop)
    (hr : ∀ ty, ∃ v' W', (Builtin.append_ #[t, t] ty #[v1, v2]).run Try.prog W = .ok v' W' ∧ R v' W')
    (h : ∀ v' W', R v' W' → K (a.put o.dst v') W') :
    if Region.wanted o (yielded ops a.tmps) = true then Oper.wp Try.prog o a W K Q else E := by
  have hw : Region.wanted o (yielded ops a.tmps) = true := by simp [Region.wanted, hgd]
  rw [if_pos hw]
  obtain ⟨v', W', h1, h2⟩ := hr o.type
  unfold Oper.wp execOp
  simp only [ho, resolve, invoke, builtin, Sem.run_bind, Sem.run_pure, Result.andThen_ok, List.map_toArray, List.map_cons, List.map_nil, hs, hx, h1]
  exact h v' W' h2
/-- The same where nothing is drawn. -/
theorem wpList_run (W : World) {ops : Array Oper} {rest : List Oper} {o : Oper} {a : Act} {Q : Exit → Act → World → Prop} (hgd : o.guard = none) (s x : Operand) (t : TypeId)
    (ho : o.op = .call { callee := .builtin .append, args := #[s, x], argTypes := #[t, t] }) (v1 v2 : Value) (hs : a.eval s = v1) (hx : a.eval x = v2) (R : Value → World → Prop)
    (hr : ∀ ty, ∃ v' W', (Builtin.append_ #[t, t] ty #[v1, v2]).run Try.prog W = .ok v' W' ∧ R v' W')
    (h : ∀ v' W', R v' W' → wpList Try.prog ops Q rest (a.put o.dst v') W') :
    wpList Try.prog ops Q (o :: rest) a W := by
  refine wpList_plain hgd fun K hK => ?_
  obtain ⟨v', W', h1, h2⟩ := hr o.type
  unfold Oper.wp execOp
  simp only [ho, resolve, invoke, builtin, Sem.run_bind, Sem.run_pure, Result.andThen_ok, List.map_toArray, List.map_cons, List.map_nil, hs, hx, h1]
  exact hK _ _ (h v' W' h2)
/-- One pair more. -/
theorem app_pair (W : World) (B : Nat) (t e : TypeId) (i : TypeInfo) (z : Value) (bytes : Nat) (ht : Try.prog.underlying t = some (.slice e)) (hi : Try.prog.info? e = some i) (hz : i.zero = some z) (hsz : i.size = 2) (hby : i.bytes = bytes) (hzs : z.cells.size = 2) (hb64 : bytes ≤ 64)
    (g n c : Nat) (ps : List VP) (hown : W.ownsRow B e 2 (.slice (some ⟨g, 0, none⟩) n c) n (pv ps)) (hn : n ≤ 8000000) (ad : Nat) (p : VP) (c0 : W.cell? ⟨ad, 0, none⟩ = some p.1) (c1 : W.cell? ⟨ad, 1, none⟩ = some p.2) (p1 : p.1.oneCell' = true) (p2 : p.2.oneCell' = true) (hB : B ≤ W.heap.size) (ty : TypeId) :
    ∃ v' W', (Builtin.append_ #[t, t] ty #[.slice (some ⟨g, 0, none⟩) n c, .slice (some ⟨ad, 0, none⟩) 1 1]).run Try.prog W = .ok v' W' ∧ ∃ g' c', v' = .slice (some ⟨g', 0, none⟩) (n + 1) c' ∧ W'.ownsRow B e 2 (.slice (some ⟨g', 0, none⟩) (n + 1) c') (n + 1) (pv (ps ++ [p])) ∧ W.grownBy W' (some g) ∧ (g' = g ∨ g' = W.heap.size) := by
  obtain ⟨v', w', h1, h2, h3, _, h5⟩ := run_append_own_at (P := Try.prog) W B t ty e i z 2 bytes ht hi hz hsz hby hzs (by decide) _ n (pv ps) hown ⟨ad, 0, none⟩ 1 1 [p.1, p.2] rfl (by
    intro j u hj
    rw [add_at]
    match j, hj with
    | 0, hj => simp at hj; subst hj; exact c0
    | 1, hj => simp at hj; subst hj; exact c1
    | j + 2, hj => simp at hj) (by
    intro u hu
    simp at hu
    rcases hu with rfl | rfl
    · exact p1
    · exact p2) (by unfold maxLen; omega) (by have : (n + 1) * bytes ≤ 8000001 * 64 := Nat.mul_le_mul (by omega) hb64; omega) hB
  refine ⟨v', w', h1, ?_⟩
  rw [← pv_snoc] at h2
  rcases h2.2 with ⟨_, h0⟩ | ⟨g', c', cur, rfl, rest⟩
  · omega
  · refine ⟨g', c', rfl, h2, h3, ?_⟩
    simpa [Value.ownBlock] using h5
end

section
open Go.RowKit
theorem join_len {zs : List Str} (h : good zs = true) : (joinOf zs).length ≤ 451 := by
  unfold joinOf
  split
  · simp
  · try rw [if_pos h]
    have h1 := good_len h
    have h2 := good_all h
    have : ∀ l : List Str, (∀ z ∈ l, nameOk z = true) → (l.flatMap fun p => 47 :: p).length ≤ 15 * l.length := by
      intro l
      induction l with
      | nil => intro _; simp
      | cons z l ih =>
        intro hl
        have h3 := nameOk_len (hl z (List.mem_cons_self ..))
        have h4 := ih fun y hy => hl y (List.mem_cons_of_mem _ hy)
        simp only [List.flatMap_cons, List.length_append, List.length_cons] at h4 ⊢
        omega
    have := this zs h2
    omega
theorem parent_small (l : Str) : (parentOf l).1.length ≤ 451 ∧ (parentOf l).2.1.length ≤ 14 := by
  cases hs : splitOf l with
  | none => rw [pa_none hs]; simp
  | some ps =>
    obtain ⟨zs, hz, _⟩ := split_strs hs
    have hg := split_good hz
    rcases Nat.eq_zero_or_pos zs.length with h0 | h0
    · have : zs = [] := List.length_eq_zero_iff.1 h0
      subst this
      rw [pa_nil hz]
      simp
    · rw [pa_some hz h0]
      refine ⟨join_len (good_prefix hg ?_), ?_⟩
      · unfold strs
        rw [List.map_take]
        exact List.take_prefix _ _
      · have hm : zs.getD (zs.length - 1) ⟨#[]⟩ ∈ zs := by
          rw [List.getD_eq_getElem?_getD, List.getElem?_eq_getElem (by omega)]
          exact List.getElem_mem _
        have := good_all hg (zs.getD (zs.length - 1) ⟨#[]⟩).data.toList (List.mem_map_of_mem (f := fun z : ByteArray => z.data.toList) hm)
        exact nameOk_len this
/-- Where something new is put: the parent, the last name, and a code. -/
def spotD (ds : List InoD) (s : ByteArray) (fr : Int) : InoD × ByteArray × Int :=
  if (parentOf s.data.toList).2.2 = false then (inoZ.D, ⟨#[]⟩, 1)
  else if (statD ds (strB (parentOf s.data.toList).1)).2 ≠ 0 then (inoZ.D, ⟨#[]⟩, (statD ds (strB (parentOf s.data.toList).1)).2)
  else if (statD ds (strB (parentOf s.data.toList).1)).1.kind ≠ 2 then (inoZ.D, ⟨#[]⟩, 3)
  else if entOf (strB (parentOf s.data.toList).2.1) (statD ds (strB (parentOf s.data.toList).1)).1.ents ≠ 0 then (inoZ.D, ⟨#[]⟩, 4)
  else if 10 ≤ (statD ds (strB (parentOf s.data.toList).1)).1.ents.length ∧ (statD ds (strB (parentOf s.data.toList).1)).1.ino ≠ fr then (inoZ.D, ⟨#[]⟩, 5)
  else ((statD ds (strB (parentOf s.data.toList).1)).1, strB (parentOf s.data.toList).2.1, 0)
def SpotPost (w : World) (D : InoD) (nm : ByteArray) (c : Int) (e : Ending) (w' : World) : Prop :=
  ∃ (b1 : Option Addr) (d1 : Nat) (b2 : Option Addr) (d2 : Nat) (b3 : Option Addr) (d3 : Nat), e = .returned (.tuple #[.agg #[.int .i64 D.ino, .int .i64 D.kind, .int .i64 D.links, .slice b1 D.data.length d1, .slice b2 D.ents.length d2, .slice b3 D.attrs.length d3], .string nm, .int .i64 c]) ∧
    InoG w' w.heap.size w'.heap.size D (.slice b1 D.data.length d1) (.slice b2 D.ents.length d2) (.slice b3 D.attrs.length d3) ∧ Below w.heap.size w w'
theorem spotPost_zero {w w' : World} {c : Int} {e : Ending} (he : e = .returned (.tuple #[.agg #[.int .i64 0, .int .i64 0, .int .i64 0, .slice none 0 0, .slice none 0 0, .slice none 0 0], .string ⟨#[]⟩, .int .i64 c])) (hb : Below w.heap.size w w') : SpotPost w inoZ.D ⟨#[]⟩ c e w' :=
  ⟨none, 0, none, 0, none, 0, he, inoG_zero _ _ _, hb⟩
theorem statD_small {ds : List InoD} {s : ByteArray} (h : ∀ D ∈ ds, InoSmall D) : InoSmall (statD ds s).1 := by
  have hz : InoSmall inoZ.D := ⟨by simp [inoZ], by simp [inoZ], by simp [inoZ], by simp [inoZ], by simp [inoZ]⟩
  unfold statD
  split
  · split
    · exact hz
    · rename_i D hD
      exact h D (look_mem hD).1
  · exact hz
set_option maxRecDepth 100000 in
set_option maxHeartbeats 8000000 in
theorem spotS (a : Option Addr) (n cap : Nat) (nx : Int) (rs : List InoR) (s : ByteArray) (fr : Int) (w : World) (ht : TR w a n rs) (hs : s.size ≤ 4000000) :
    Calls Try.prog 151 #[.agg #[.slice a n cap, .int .i64 nx], .string s, .int .i64 fr] w fun e w' => SpotPost w (spotD (rs.map InoR.D) s fr).1 (spotD (rs.map InoR.D) s fr).2.1 (spotD (rs.map InoR.D) s fr).2.2 e w' := by
  have B0 : Below w.heap.size w ((w.alloc (.cells #[.slice a n cap, .int .i64 nx] 26)).alloc (.cells #[.int .i64 0, .int .i64 0, .int .i64 0, .slice none 0 0, .slice none 0 0, .slice none 0 0] 30)) := ((Below.refl _ w).alloc (Nat.le_refl _) _).alloc (by simp) _
  have zT : Blk ((w.alloc (.cells #[.slice a n cap, .int .i64 nx] 26)).alloc (.cells #[.int .i64 0, .int .i64 0, .int .i64 0, .slice none 0 0, .slice none 0 0, .slice none 0 0] 30)) w.heap.size 26 #[.slice a n cap, .int .i64 nx] := (Blk.new w _ _).alloc _
  have zR := Blk.new (w.alloc (.cells #[.slice a n cap, .int .i64 nx] 26)) 30 #[.int .i64 0, .int .i64 0, .int .i64 0, .slice none 0 0, .slice none 0 0, .slice none 0 0]
  simp only [World.size_alloc] at zR
  have hsz : ((w.alloc (.cells #[.slice a n cap, .int .i64 nx] 26)).alloc (.cells #[.int .i64 0, .int .i64 0, .int .i64 0, .slice none 0 0, .slice none 0 0, .slice none 0 0] 30)).heap.size = w.heap.size + 1 + 1 := by simp
  have hp : Hid (∀ (e : Ending) (w' : World) (D : InoD) (nm : ByteArray) (q : Int), spotD (rs.map InoR.D) s fr = (D, nm, q) → SpotPost w D nm q e w' → SpotPost w (spotD (rs.map InoR.D) s fr).1 (spotD (rs.map InoR.D) s fr).2.1 (spotD (rs.map InoR.D) s fr).2.2 e w') := fun e w' D nm q h hh => by rw [h]; exact hh
  generalize SpotPost w (spotD (rs.map InoR.D) s fr).1 (spotD (rs.map InoR.D) s fr).2.1 (spotD (rs.map InoR.D) s fr).2.2 = P at hp ⊢
  have hsd : spotD (rs.map InoR.D) s fr = spotD (rs.map InoR.D) s fr := rfl
  conv at hsd => rhs; unfold spotD
  have hps := parent_small s.data.toList
  go_enter Try.func151, Try.ntmps151
  go_wp2_with fail
  obtain ⟨W0, hW0⟩ : ∃ W, ((w.alloc (.cells #[.slice a n cap, .int .i64 nx] 26)).alloc (.cells #[.int .i64 0, .int .i64 0, .int .i64 0, .slice none 0 0, .slice none 0 0, .slice none 0 0] 30)) = W := ⟨_, rfl⟩
  rw [hW0] at B0 zT zR hsz ⊢
  clear hW0
  have ht0 := ht.keep B0
  refine (parentS s W0 hs).mono ?_
  rintro e w1 ⟨b1, rfl⟩
  obtain ⟨P1, P2, P3, hP⟩ : ∃ P1 P2 P3, parentOf s.data.toList = (P1, P2, P3) := ⟨_, _, _, rfl⟩
  rw [hP] at hsd hps ⊢
  dsimp only at hsd hps ⊢
  have hB1 := B0.trans (b1.mono B0.size)
  have zr := zR.keep b1
  have zt := zT.keep b1
  have ht1 := ht0.keep b1
  clear B0 zR zT ht0 b1 ht hP
  cases P3 with
  | false =>
    have hst : spotD (rs.map InoR.D) s fr = (inoZ.D, ⟨#[]⟩, 1) := hsd
    have HS : Hid _ := hst
    have HG : Hid _ := And.intro zr hB1
    obtain ⟨t0, t1, t2, t3, t4, t5⟩ := zr.six
    have fz0 := zr.frozen 0
    have fz1 := zr.frozen 1
    have fz2 := zr.frozen 2
    have fz3 := zr.frozen 3
    have fz4 := zr.frozen 4
    have fz5 := zr.frozen 5
    clear hsd hst zr hB1 zt ht1
    go_wp2
    have zf := ((((((show Blk w1 (w.heap.size + 1) 30 _ from HG.out.1).set 0 (.int .i64 0)).set 1 (.int .i64 0)).set 2 (.int .i64 0)).set 3 (.slice none 0 0)).set 4 (.slice none 0 0)).set 5 (.slice none 0 0)
    have dd0 := zf.cell 0
    have dd1 := zf.cell 1
    have dd2 := zf.cell 2
    have dd3 := zf.cell 3
    have dd4 := zf.cell 4
    have dd5 := zf.cell 5
    simp at dd0 dd1 dd2 dd3 dd4 dd5
    refine bodyPost_ret (v := .tuple #[.agg #[.int .i64 0, .int .i64 0, .int .i64 0, .slice none 0 0, .slice none 0 0, .slice none 0 0], .string ⟨#[]⟩, .int .i64 1]) (by simp [results, Try.f151, go_sem, dd0, dd1, dd2, dd3, dd4, dd5]) rfl ?_
    exact hp.out _ _ _ _ _ HS.out (spotPost_zero rfl (at_stored HG.out.2 (inoG_zero w1 (w.heap.size + 1 + 1) w1.heap.size) HG.out.1 (Nat.lt_succ_self _) _ _ _ _ _ _).2)
  | true =>
    simp only [Bool.true_eq_false, if_false] at hsd
    have zt0 := zt.cell 0
    have zt1 := zt.cell 1
    simp at zt0 zt1
    have hcS := statS a n cap nx rs (strB P1) w1 ht1 (by rw [strB_size]; omega)
    have hsm : InoSmall (statD (rs.map InoR.D) (strB P1)).1 := statD_small fun D hD => by
      obtain ⟨r, hr, rfl⟩ := List.mem_map.1 hD
      exact ht1.small r hr
    obtain ⟨D, c, hDc⟩ : ∃ D c, statD (rs.map InoR.D) (strB P1) = (D, c) := ⟨_, _, rfl⟩
    rw [hDc] at hsd hcS hsm
    dsimp only at hsd hcS hsm
    have HZR : Hid _ := zr
    have HB1 : Hid _ := hB1
    have hs1 : w.heap.size + 1 < w1.heap.size := zr.lt
    clear zr hB1 zt ht1 hDc
    go_wp2_with fail
    (with_reducible refine hcS.mono ?_)
    rintro e w2 ⟨b1, d1, b2, d2, b3, d3, rfl, g2, bb2⟩
    clear hcS zt0 zt1
    have zr := Blk.keep HZR.out bb2
    have hb2 := HB1.out.trans (bb2.mono HB1.out.size)
    have z3 := zr.alloc (.cells #[.int .i64 D.ino, .int .i64 D.kind, .int .i64 D.links, .slice b1 D.data.length d1, .slice b2 D.ents.length d2, .slice b3 D.attrs.length d3] 30)
    have hb3 := hb2.alloc hb2.size (.cells #[.int .i64 D.ino, .int .i64 D.kind, .int .i64 D.links, .slice b1 D.data.length d1, .slice b2 D.ents.length d2, .slice b3 D.attrs.length d3] 30)
    have zX := Blk.new w2 30 #[.int .i64 D.ino, .int .i64 D.kind, .int .i64 D.links, .slice b1 D.data.length d1, .slice b2 D.ents.length d2, .slice b3 D.attrs.length d3]
    have g3 := (g2.keep (Nat.le_refl _) ((Below.refl _ w2).alloc (Nat.le_refl _) (.cells #[.int .i64 D.ino, .int .i64 D.kind, .int .i64 D.links, .slice b1 D.data.length d1, .slice b2 D.ents.length d2, .slice b3 D.attrs.length d3] 30))).wider (T' := (w2.alloc (.cells #[.int .i64 D.ino, .int .i64 D.kind, .int .i64 D.links, .slice b1 D.data.length d1, .slice b2 D.ents.length d2, .slice b3 D.attrs.length d3] 30)).heap.size) (Nat.le_refl _) (by simp)
    have hlt2 : w2.heap.size < (w2.alloc (.cells #[.int .i64 D.ino, .int .i64 D.kind, .int .i64 D.links, .slice b1 D.data.length d1, .slice b2 D.ents.length d2, .slice b3 D.attrs.length d3] 30)).heap.size := by simp
    have hs2 := bb2.size
    clear zr hb2 g2 bb2
    -- a refusal behind Stat: the zero inode, and a code
    have hzero : Hid (∀ (W : World) (q : Int) (u0 u1 u2 u3 u4 u5 : Value), Blk W (w.heap.size + 1) 30 #[u0, u1, u2, u3, u4, u5] → Below w.heap.size w W → spotD (rs.map InoR.D) s fr = (inoZ.D, ⟨#[]⟩, q) → P (.returned (.tuple #[.agg #[.int .i64 0, .int .i64 0, .int .i64 0, .slice none 0 0, .slice none 0 0, .slice none 0 0], .string ⟨#[]⟩, .int .i64 q])) ((((((W.setCell ⟨w.heap.size + 1, 0, none⟩ (.int .i64 0)).setCell ⟨w.heap.size + 1, 1, none⟩ (.int .i64 0)).setCell ⟨w.heap.size + 1, 2, none⟩ (.int .i64 0)).setCell ⟨w.heap.size + 1, 3, none⟩ (.slice none 0 0)).setCell ⟨w.heap.size + 1, 4, none⟩ (.slice none 0 0)).setCell ⟨w.heap.size + 1, 5, none⟩ (.slice none 0 0))) := fun W q u0 u1 u2 u3 u4 u5 hz hb hq => hp.out _ _ _ _ _ hq (spotPost_zero rfl (at_stored hb (inoG_zero W (w.heap.size + 1 + 1) W.heap.size) hz (Nat.lt_succ_self _) _ _ _ _ _ _).2)
    obtain ⟨t0, t1, t2, t3, t4, t5⟩ := z3.six
    have fz0 := z3.frozen 0
    have fz1 := z3.frozen 1
    have fz2 := z3.frozen 2
    have fz3 := z3.frozen 3
    have fz4 := z3.frozen 4
    have fz5 := z3.frozen 5
    obtain ⟨W3, hW3⟩ : ∃ W, w2.alloc (.cells #[.int .i64 D.ino, .int .i64 D.kind, .int .i64 D.links, .slice b1 D.data.length d1, .slice b2 D.ents.length d2, .slice b3 D.attrs.length d3] 30) = W := ⟨_, rfl⟩
    have HZ3 : Hid _ := z3
    have HB3 : Hid _ := hb3
    have HG3 : Hid _ := g3
    have HSM : Hid _ := hsm
    rw [hW3] at HZ3 HB3 zX HG3 hlt2 t0 t1 t2 t3 t4 t5 fz0 fz1 fz2 fz3 fz4 fz5
    clear z3 hb3 g3 hsm
    by_cases hc0 : c = 0
    · subst hc0
      simp only [ne_eq, not_true_eq_false, if_false] at hsd
      obtain ⟨x0, x1, x2, x3, x4, x5⟩ := zX.six
      by_cases hk2 : D.kind = 2
      · rw [if_neg (by simpa using hk2)] at hsd
        have hcE := entOfS D b1 b2 b3 d1 d2 d3 (strB P2) W3 HSM.out.ents HG3.out.rds
        unfold inoV at hcE
        have HZX : Hid _ := zX
        obtain ⟨ev, hev⟩ : ∃ ev, entOf (strB P2) D.ents = ev := ⟨_, rfl⟩
        rw [hev] at hcE hsd
        have hkb : (D.kind != 2) = false := by simp [hk2]
        have hkb' : (D.kind == 2) = true := by simp [hk2]
        clear hk2 hev zX t0 t1 t2 t3 t4 t5 fz0 fz1 fz2 fz3 fz4 fz5
        go_wp2_with fail
        (with_reducible refine hcE.mono ?_)
        rintro e w4 ⟨rfl, b4⟩
        clear hcE x0 x1 x2 x3 x4 x5
        have z4 := Blk.keep HZ3.out b4
        have zX4 := Blk.keep HZX.out b4
        have hb4 := HB3.out.trans (b4.mono HB3.out.size)
        obtain ⟨t0, t1, t2, t3, t4, t5⟩ := z4.six
        have fz0 := z4.frozen 0
        have fz1 := z4.frozen 1
        have fz2 := z4.frozen 2
        have fz3 := z4.frozen 3
        have fz4 := z4.frozen 4
        have fz5 := z4.frozen 5
        obtain ⟨x0, x1, x2, x3, x4, x5⟩ := zX4.six
        have HZ4 : Hid _ := z4
        have HB4 : Hid _ := hb4
        have HG4 : Hid (InoG w4 w1.heap.size W3.heap.size D (.slice b1 D.data.length d1) (.slice b2 D.ents.length d2) (.slice b3 D.attrs.length d3)) := InoG.keep HG3.out (Nat.le_refl _) b4
        have hs34 := b4.size
        clear z4 zX4 hb4 b4
        by_cases he0 : ev = 0
        · subst he0
          simp only [not_true_eq_false, if_false] at hsd
          have hsl : Hid _ := HSM.out.ents
          by_cases hful : 10 ≤ D.ents.length ∧ D.ino ≠ fr
          · rw [if_pos hful] at hsd
            have HS : Hid _ := hsd
            obtain ⟨hf1, hf2⟩ := hful
            have hfi : (10 : Int) ≤ (D.ents.length : Int) := by omega
            have hfb : (D.ino != fr) = true := by simpa using hf2
            have hfb' : (D.ino == fr) = false := by simpa using hf2
            have hfd : decide ((10 : Int) ≤ (D.ents.length : Int)) = true := decide_eq_true hfi
            clear hsd
            go_wp2
            have zf := blk6 HZ4.out (.int .i64 0) (.int .i64 0) (.int .i64 0) (.slice none 0 0) (.slice none 0 0) (.slice none 0 0)
            obtain ⟨dd0, dd1, dd2, dd3, dd4, dd5⟩ := zf.six
            refine bodyPost_ret (v := .tuple #[.agg #[.int .i64 0, .int .i64 0, .int .i64 0, .slice none 0 0, .slice none 0 0, .slice none 0 0], .string ⟨#[]⟩, .int .i64 5]) (by simp [results, Try.f151, go_sem, dd0, dd1, dd2, dd3, dd4, dd5]) rfl ?_
            exact hzero.out _ _ _ _ _ _ _ _ HZ4.out HB4.out HS.out
          · rw [if_neg hful] at hsd
            have HS : Hid _ := hsd
            have hfin : Hid (P (.returned (.tuple #[.agg #[.int .i64 D.ino, .int .i64 D.kind, .int .i64 D.links, .slice b1 D.data.length d1, .slice b2 D.ents.length d2, .slice b3 D.attrs.length d3], .string (strB P2), .int .i64 0])) ((((((w4.setCell ⟨w.heap.size + 1, 0, none⟩ (.int .i64 D.ino)).setCell ⟨w.heap.size + 1, 1, none⟩ (.int .i64 D.kind)).setCell ⟨w.heap.size + 1, 2, none⟩ (.int .i64 D.links)).setCell ⟨w.heap.size + 1, 3, none⟩ (.slice b1 D.data.length d1)).setCell ⟨w.heap.size + 1, 4, none⟩ (.slice b2 D.ents.length d2)).setCell ⟨w.heap.size + 1, 5, none⟩ (.slice b3 D.attrs.length d3))) := by
              have hf := at_stored HB4.out (HG4.out.wider (Nat.le_refl _) hs34) HZ4.out hs1 (.int .i64 D.ino) (.int .i64 D.kind) (.int .i64 D.links) (.slice b1 D.data.length d1) (.slice b2 D.ents.length d2) (.slice b3 D.attrs.length d3)
              exact hp.out _ _ _ _ _ HS.out ⟨b1, d1, b2, d2, b3, d3, rfl, hf.1, hf.2⟩
            have zf := blk6 HZ4.out (.int .i64 D.ino) (.int .i64 D.kind) (.int .i64 D.links) (.slice b1 D.data.length d1) (.slice b2 D.ents.length d2) (.slice b3 D.attrs.length d3)
            have HF : Hid _ := zf
            clear zf
            by_cases hl10 : 10 ≤ D.ents.length
            · have hino : D.ino = fr := by
                by_cases h : D.ino = fr
                · exact h
                · exact absurd ⟨hl10, h⟩ hful
              have hfi : (10 : Int) ≤ (D.ents.length : Int) := by omega
              have hfb : (D.ino != fr) = false := by simp [hino]
              have hfb' : (D.ino == fr) = true := by simp [hino]
              have hfd : decide ((10 : Int) ≤ (D.ents.length : Int)) = true := decide_eq_true hfi
              clear hsd hful hino
              go_wp2
              obtain ⟨dd0, dd1, dd2, dd3, dd4, dd5⟩ := Blk.six HF.out
              refine bodyPost_ret (v := .tuple #[.agg #[.int .i64 D.ino, .int .i64 D.kind, .int .i64 D.links, .slice b1 D.data.length d1, .slice b2 D.ents.length d2, .slice b3 D.attrs.length d3], .string (strB P2), .int .i64 0]) (by simp [results, Try.f151, go_sem, dd0, dd1, dd2, dd3, dd4, dd5]) rfl ?_
              exact hfin.out
            · have hfi : ¬ (10 : Int) ≤ (D.ents.length : Int) := by omega
              have hfd : decide ((10 : Int) ≤ (D.ents.length : Int)) = false := decide_eq_false hfi
              clear hsd hful
              go_wp2
              obtain ⟨dd0, dd1, dd2, dd3, dd4, dd5⟩ := Blk.six HF.out
              refine bodyPost_ret (v := .tuple #[.agg #[.int .i64 D.ino, .int .i64 D.kind, .int .i64 D.links, .slice b1 D.data.length d1, .slice b2 D.ents.length d2, .slice b3 D.attrs.length d3], .string (strB P2), .int .i64 0]) (by simp [results, Try.f151, go_sem, dd0, dd1, dd2, dd3, dd4, dd5]) rfl ?_
              exact hfin.out
        · rw [if_pos he0] at hsd
          have HS : Hid _ := hsd
          have heb : (ev != 0) = true := by simpa using he0
          have heb' : (ev == 0) = false := by simpa using he0
          clear hsd
          go_wp2
          have zf := blk6 HZ4.out (.int .i64 0) (.int .i64 0) (.int .i64 0) (.slice none 0 0) (.slice none 0 0) (.slice none 0 0)
          obtain ⟨dd0, dd1, dd2, dd3, dd4, dd5⟩ := zf.six
          refine bodyPost_ret (v := .tuple #[.agg #[.int .i64 0, .int .i64 0, .int .i64 0, .slice none 0 0, .slice none 0 0, .slice none 0 0], .string ⟨#[]⟩, .int .i64 4]) (by simp [results, Try.f151, go_sem, dd0, dd1, dd2, dd3, dd4, dd5]) rfl ?_
          exact hzero.out _ _ _ _ _ _ _ _ HZ4.out HB4.out HS.out
      · rw [if_pos hk2] at hsd
        have HS : Hid _ := hsd
        have hkb : (D.kind != 2) = true := by simpa using hk2
        have hkb' : (D.kind == 2) = false := by simpa using hk2
        clear hsd zX
        go_wp2
        have zf := blk6 HZ3.out (.int .i64 0) (.int .i64 0) (.int .i64 0) (.slice none 0 0) (.slice none 0 0) (.slice none 0 0)
        obtain ⟨dd0, dd1, dd2, dd3, dd4, dd5⟩ := zf.six
        refine bodyPost_ret (v := .tuple #[.agg #[.int .i64 0, .int .i64 0, .int .i64 0, .slice none 0 0, .slice none 0 0, .slice none 0 0], .string ⟨#[]⟩, .int .i64 3]) (by simp [results, Try.f151, go_sem, dd0, dd1, dd2, dd3, dd4, dd5]) rfl ?_
        exact hzero.out _ _ _ _ _ _ _ _ HZ3.out HB3.out HS.out
    · rw [if_pos hc0] at hsd
      have HS : Hid _ := hsd
      have hcb : (c != 0) = true := by simpa using hc0
      have hcb' : (c == 0) = false := by simpa using hc0
      clear hsd zX
      go_wp2
      have zf := blk6 HZ3.out (.int .i64 0) (.int .i64 0) (.int .i64 0) (.slice none 0 0) (.slice none 0 0) (.slice none 0 0)
      obtain ⟨dd0, dd1, dd2, dd3, dd4, dd5⟩ := zf.six
      refine bodyPost_ret (v := .tuple #[.agg #[.int .i64 0, .int .i64 0, .int .i64 0, .slice none 0 0, .slice none 0 0, .slice none 0 0], .string ⟨#[]⟩, .int .i64 c]) (by simp [results, Try.f151, go_sem, dd0, dd1, dd2, dd3, dd4, dd5]) rfl ?_
      exact hzero.out _ _ _ _ _ _ _ _ HZ3.out HB3.out HS.out
end
end Go.Proofs.Ytgcmpimckpnemaa
