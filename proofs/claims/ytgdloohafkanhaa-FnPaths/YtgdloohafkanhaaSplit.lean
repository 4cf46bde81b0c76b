/-
  What SplitPath of the program answers, at every text: the names of the path, in a row of its own, or nothing.
-/
import Derived.Test.YtgdloohafkanhaaIter
namespace Go.Proofs.Ytgdloohafkanhaa
open Go.RowKit Go.Shelf

attribute [local go_sem] Oper.semAt_some

theorem Try.info9 : (Try.prog.info? 9).map (fun i => (i.zero, i.size, i.bytes)) = some (some (.string ⟨#[]⟩), 1, 16) := by kernel_rfl

/-- The block g is the call's own row of texts. -/
def OwnS (w : World) (g n cap : Nat) (zs : List ByteArray) : Prop := w.ownsRow 0 9 1 (.slice (some ⟨g, 0, none⟩) n cap) n (zs.map Value.string)

def strs (zs : List ByteArray) : List Str := zs.map fun z => z.data.toList

/-- What both SplitPath functions answer. -/
def SpPost (s : ByteArray) (w : World) (e : Ending) (w' : World) : Prop := Below w.heap.size w w' ∧
  ((splitOf s.data.toList = none ∧ ∃ a c, e = .returned (.tuple #[.slice a 0 c, .bool false])) ∨
   (∃ zs g c, splitOf s.data.toList = some (strs zs) ∧ e = .returned (.tuple #[.slice (some ⟨g, 0, none⟩) zs.length c, .bool true]) ∧ w.heap.size ≤ g ∧ OwnS w' g zs.length c zs))

theorem boxed_below {W W' : World} {B : Nat} {t : TypeId} {v : Value} (hb : Below W.heap.size W W') (h : Boxed W B t v) : Boxed W' B t v := (hb.block B h.lt).trans h
theorem row_below {W W' : World} {base k : Nat} {e : TypeId} {v : Value} {xs : List Value} (hb : Below W.heap.size W W') (h : W.ownsRow base e 1 v k xs) : W'.ownsRow base e 1 v k xs := by
  refine ⟨h.1, ?_⟩
  rcases h.2 with h' | ⟨g', cap', cur, h', hb', hgg, rest⟩
  · exact .inl h'
  · exact .inr ⟨g', cap', cur, h', hb', (hb.block g' (Array.getElem?_eq_some_iff.1 hgg).1).trans hgg, rest⟩
theorem row_base {W : World} {base k : Nat} {e : TypeId} {v : Value} {xs : List Value} (h : W.ownsRow base e 1 v k xs) : W.ownsRow 0 e 1 v k xs := by
  refine ⟨h.1, ?_⟩
  rcases h.2 with h' | ⟨g', cap', cur, h', _, rest⟩
  · exact .inl h'
  · exact .inr ⟨g', cap', cur, h', Nat.zero_le _, rest⟩
theorem keeps_below {W W' : World} (hb : Below W.heap.size W W') : KeepsOthers W W' := ⟨hb.size, fun k _ hk _ => (hb.block k (Array.getElem?_eq_some_iff.1 hk).1).trans hk⟩

/-- An append of one text onto a row of the call's own, inside a fence: the new slice written out. -/
theorem appS_in {F : Fence} {m : Nat} (w : World) {ops : Array Oper} {rest : List Oper} {o : Oper} {a : Act} {Q : Exit → Act → World → Prop} (hgd : o.guard = none) (s x : Operand)
    (ho : o.op = .call { callee := .builtin .append, args := #[s, x], argTypes := #[24, 24] })
    (base g k c : Nat) (xs : List Value) (hs : a.eval s = .slice (some ⟨g, 0, none⟩) k c) (hown : w.ownsRow base 9 1 (.slice (some ⟨g, 0, none⟩) k c) k xs)
    (ad : Nat) (z : ByteArray) (hx : a.eval x = .slice (some ⟨ad, 0, none⟩) 1 1) (hcell : w.cell? ⟨ad, 0, none⟩ = some (.string z)) (hk : k ≤ 1000000) (hb : base ≤ w.heap.size)
    (h : ∀ g' c' w', w'.ownsRow base 9 1 (.slice (some ⟨g', 0, none⟩) (k + 1) c') (k + 1) (xs ++ [.string z]) → w.grownBy w' (some g) → wpListIn F m Try.prog ops Q rest (a.put o.dst (.slice (some ⟨g', 0, none⟩) (k + 1) c')) w') :
    wpListIn F m Try.prog ops Q (o :: rest) a w := by
  obtain ⟨i0, hi, hz0, hz1, hz2⟩ := info_parts Try.info9
  refine wpListIn_append_own w hgd s x 24 ho base 9 i0 (.string ⟨#[]⟩) 1 16 Try.underlying24 hi hz0 hz1 hz2 rfl (by decide) _ k xs hs hown ⟨ad, 0, none⟩ 1 1 [.string z] hx rfl ?_ (by simp [Value.oneCell']) (by unfold maxLen; omega) (by omega) hb ?_
  · intro j u hj
    cases j with
    | zero => simp at hj; subst hj; simpa [Addr.add] using hcell
    | succ j => simp at hj
  · intro v' w' h1 h2 _
    obtain ⟨g', c', rfl⟩ := ownsRow_succ h1
    exact h g' c' w' h1 h2

/-- The same as a step of a region that draws its order. -/
theorem stepS_in {F : Fence} {m : Nat} {ops : Array Oper} {o : Oper} {a : Act} {w : World} {K : Act → World → Prop} {Q : Exit → Act → World → Prop} {E : Prop} (hgd : o.guard = none) (s x : Operand)
    (ho : o.op = .call { callee := .builtin .append, args := #[s, x], argTypes := #[24, 24] })
    (base g k c : Nat) (xs : List Value) (hs : a.eval s = .slice (some ⟨g, 0, none⟩) k c) (hown : w.ownsRow base 9 1 (.slice (some ⟨g, 0, none⟩) k c) k xs)
    (ad : Nat) (z : ByteArray) (hx : a.eval x = .slice (some ⟨ad, 0, none⟩) 1 1) (hcell : w.cell? ⟨ad, 0, none⟩ = some (.string z)) (hk : k ≤ 1000000) (hb : base ≤ w.heap.size)
    (h : ∀ g' c' w', w'.ownsRow base 9 1 (.slice (some ⟨g', 0, none⟩) (k + 1) c') (k + 1) (xs ++ [.string z]) → w.grownBy w' (some g) → K (a.put o.dst (.slice (some ⟨g', 0, none⟩) (k + 1) c')) w') :
    if Region.wanted o (yielded ops a.tmps) = true then Oper.wpIn F m Try.prog o a w K Q else E := by
  have hw : Region.wanted o (yielded ops a.tmps) = true := by simp [Region.wanted, hgd]
  rw [if_pos hw]
  obtain ⟨i0, hi, hz0, hz1, hz2⟩ := info_parts Try.info9
  obtain ⟨v', w', hrun, r1, r2, _⟩ := run_append_own (P := Try.prog) w base 24 o.type 9 i0 (.string ⟨#[]⟩) 1 16 Try.underlying24 hi hz0 hz1 hz2 rfl (by decide) _ k xs hown ⟨ad, 0, none⟩ 1 1 [.string z] rfl (by
    intro j u hj
    cases j with
    | zero => simp at hj; subst hj; simpa [Addr.add] using hcell
    | succ j => simp at hj) (by simp [Value.oneCell']) (by unfold maxLen; omega) (by omega) hb
  obtain ⟨g', c', rfl⟩ := ownsRow_succ r1
  unfold Oper.wpIn
  refine ⟨?_, ?_⟩
  · simp [Oper.about, ho, resolve, Target.leads, Sem.run_pure]
  · rw [Oper.semAt_plain F _ _ (by rw [ho]; intro c hc'; cases hc')]
    simp [execOp, ho, resolve, invoke, builtin, hs, hx, hrun, Result.andThen]
    exact h g' c' w' r1 r2

set_option maxRecDepth 100000 in
set_option maxHeartbeats 2000000 in
theorem splitI (s : ByteArray) (w : World) (hs : s.size ≤ 4000000) : Calls Try.prog 14 #[.string s] w (SpPost s w) := by
  obtain ⟨i0, hi, hz0, hz1, hz2⟩ := info_parts Try.info9
  refine (callsIn_wide (n := 5)).1 ?_
  refine callsIn_of_wp_marks Try.func14 rfl trivial ?_ rfl
  simp only [Try.ntmps14, List.size_toArray, List.length_cons, List.length_nil, Nat.reduceAdd, Nat.reduceSub, Array.replicate_succ, Array.replicate_zero, List.push_toArray, List.append_toArray, List.nil_append, List.cons_append]
  gi_wp2_with fail
  refine ⟨trivial, (callsIn_wide.2 (prefix_any s _)).mono ?_⟩
  rintro e w1 ⟨rfl, (⟨r, hr, rfl⟩ | ⟨hno, rfl⟩)⟩
  · have hrs : r.length + 1 = s.size := by rw [Lib.size_eq, hr]; rfl
    by_cases h0 : r = []
    · subst h0
      have hsp : splitOf s.data.toList = some [] := by rw [hr]; decide
      gi_wp2
      refine ⟨.tuple #[.slice (some ⟨w.heap.size + 1 + 1, 0, none⟩) 0 0, .bool true], ?_, ?_⟩
      · simp [results, Try.f14, go_sem]
      · refine ⟨((((Below.refl _ w).alloc (Nat.le_refl _) _).alloc (by simp) _).alloc (by simp; omega) _).alloc (by simp; omega) _, .inr ⟨[], _, _, hsp, rfl, by omega, ?_⟩⟩
        have := World.ownsRow_made (base := 0) (e := 9) (size := 1) ((w.alloc (.cells #[.slice (some ⟨w.heap.size + 1 + 1, 0, none⟩) 0 0] 24)).alloc (.cells #[.bool true] 4)) #[] 0 (Nat.zero_le _) (by unfold maxLen; omega) rfl
        simp only [World.size_alloc] at this
        exact World.ownsRow.alloc this _
    · have hb : (r == []) = false := by simpa using h0
      gi_wp2_with fail
      refine ⟨trivial, (namesBetween_in _ _ _).mono ?_⟩
      rintro e w1 ⟨rfl, rfl⟩
      gi_wp2_with fail
      have hB0 : Below w.heap.size w (((((w.alloc (.cells #[.slice none 0 0] 24)).alloc (.cells #[.bool false] 4)).alloc (.cells #[] 9)).alloc (.cells #[.slice (some ⟨w.heap.size + 1 + 1, 0, none⟩) 0 0] 24)).alloc (.cells #[.string ⟨r.toArray⟩] 9)) :=
        (((((Below.refl _ w).alloc (Nat.le_refl _) _).alloc (by simp) _).alloc (by simp; omega) _).alloc (by simp; omega) _).alloc (by simp; omega) _
      have b0 := ((((Boxed.new w 24 (.slice none 0 0)).alloc (.cells #[.bool false] 4)).alloc (.cells #[] 9)).alloc (.cells #[.slice (some ⟨w.heap.size + 1 + 1, 0, none⟩) 0 0] 24)).alloc (.cells #[.string ⟨r.toArray⟩] 9)
      have b1 := (((Boxed.new (w.alloc (.cells #[.slice none 0 0] 24)) 4 (.bool false)).alloc (.cells #[] 9)).alloc (.cells #[.slice (some ⟨w.heap.size + 1 + 1, 0, none⟩) 0 0] 24)).alloc (.cells #[.string ⟨r.toArray⟩] 9)
      have b3 := (Boxed.new (((w.alloc (.cells #[.slice none 0 0] 24)).alloc (.cells #[.bool false] 4)).alloc (.cells #[] 9)) 24 (.slice (some ⟨w.heap.size + 1 + 1, 0, none⟩) 0 0)).alloc (.cells #[.string ⟨r.toArray⟩] 9)
      have b4 := Boxed.new ((((w.alloc (.cells #[.slice none 0 0] 24)).alloc (.cells #[.bool false] 4)).alloc (.cells #[] 9)).alloc (.cells #[.slice (some ⟨w.heap.size + 1 + 1, 0, none⟩) 0 0] 24)) 9 (.string ⟨r.toArray⟩)
      have o2 := World.ownsRow_made (base := w.heap.size) (e := 9) (size := 1) ((w.alloc (.cells #[.slice none 0 0] 24)).alloc (.cells #[.bool false] 4)) #[] 0 (by simp; omega) (by unfold maxLen; omega) rfl
      have o2' := World.ownsRow.alloc (World.ownsRow.alloc o2 (.cells #[.slice (some ⟨w.heap.size + 1 + 1, 0, none⟩) 0 0] 24)) (.cells #[.string ⟨r.toArray⟩] 9)
      simp only [World.size_alloc] at b1 b3 b4 o2'
      clear o2
      have hsp : splitOf s.data.toList = if good (pieces r) then some (pieces r) else none := by rw [hr, splitOf_cons, if_pos rfl, if_neg h0]
      have hrsz : (⟨r.toArray⟩ : ByteArray).size ≤ 4000000 := by rw [Lib.size_eq]; simp; omega
      obtain ⟨W0, hW0⟩ : ∃ W0, (((((w.alloc (.cells #[.slice none 0 0] 24)).alloc (.cells #[.bool false] 4)).alloc (.cells #[] 9)).alloc (.cells #[.slice (some ⟨w.heap.size + 1 + 1, 0, none⟩) 0 0] 24)).alloc (.cells #[.string ⟨r.toArray⟩] 9)) = W0 := ⟨_, rfl⟩
      have hsz0 : W0.heap.size = w.heap.size + 5 := by rw [← hW0]; simp
      rw [hW0] at b0 b1 b3 b4 o2' hB0 ⊢
      clear hW0
      refine wpIn_rangeFunc_ownG rfl (by omega) (gf := 47) (lb := #[.pointer (some ⟨w.heap.size + 1 + 1 + 1 + 1, 0, none⟩)]) rfl trivial (enters_of Try.func47 (by kernel_rfl) rfl)
        (names_stops _ (w.heap.size + 1 + 1 + 1 + 1) w.heap.size (by omega) ⟨r.toArray⟩ hrsz W0 (by omega) b4.cell) belowK_t (belowK_b (by omega)) (Below.refl _ _) (fun _ => rfl)
        (fun pre W => ((∃ v, Boxed W (w.heap.size + 1 + 1 + 1) 24 v ∧ W.ownsRow w.heap.size 9 1 v pre.length (pre.map fun x => Value.string x.1) ∧ ∃ g c, v = .slice (some ⟨g, 0, none⟩) pre.length c) ∧ (Boxed W w.heap.size 24 (.slice none 0 0) ∧ Boxed W (w.heap.size + 1) 4 (.bool false) ∧ good (names pre) = true)) ∧ Below w.heap.size w W)
        (fun c pre W => ((c = .ret ∧ good (names pre) = false) ∧ (Boxed W w.heap.size 24 (.slice none 0 0) ∧ Boxed W (w.heap.size + 1) 4 (.bool false))) ∧ Below w.heap.size w W)
        (OwnFrom.and (OwnFrom.and (Own.from (holdsRow_own w.heap.size (w.heap.size + 1 + 1 + 1) 24 9 1 (fun pre : List Piece => pre.length) (fun pre => pre.map fun x => Value.string x.1) (fun pre v => ∃ g c, v = .slice (some ⟨g, 0, none⟩) pre.length c)) _) (OwnFrom.and (Own.from (boxed_own _ _ _) _) (OwnFrom.and (Own.from (boxed_own _ _ _) _) (ownFrom_pure _ _)))) (ownFrom_below (Nat.le_refl _) (by omega)))
        (fun c => OwnFrom.and (OwnFrom.and (ownFrom_pure _ _) (OwnFrom.and (Own.from (boxed_own _ _ _) _) (Own.from (boxed_own _ _ _) _))) (ownFrom_below (Nat.le_refl _) (by omega)))
        ⟨⟨⟨_, b3, o2', _, _, rfl⟩, b0, b1, rfl⟩, hB0⟩
        (fun x => { tmps := #[.string s, undef, .pointer (some ⟨w.heap.size, 0, none⟩), .pointer (some ⟨w.heap.size + 1, 0, none⟩), .string ⟨r.toArray⟩,
          .bool true, .pointer (some ⟨w.heap.size + 1 + 1 + 1, 0, none⟩), .string x.1, .tuple #[.string ⟨r.toArray⟩, .bool true], .string s, .tuple #[.string ⟨r.toArray⟩, .bool true], .string ⟨r.toArray⟩, .bool true, .bool true, .bool false,
          .slice (some ⟨w.heap.size + 1 + 1, 0, none⟩) 0 0, .string ⟨r.toArray⟩, .bool false, undef, .string ⟨r.toArray⟩,
          .func (.func 47) #[] #[.pointer (some ⟨w.heap.size + 1 + 1 + 1 + 1, 0, none⟩)], .string x.1, undef, undef, undef, undef, undef, undef, undef, undef, undef, undef, undef, undef, undef, undef], defers := [] }) ?assign ?body ?done ?stop
      case assign =>
        intro l x W K hK
        gi_wp2
        exact hK
      case body =>
        rintro l pre x W ⟨⟨⟨v, hv, hrow, g, c, rfl⟩, hr0, hr1, hgd⟩, hB⟩ hlt
        have hc := hv.cell
        have c0 := hr0.cell
        have f0 := hr0.frozen
        have c1 := hr1.cell
        have f1 := hr1.frozen
        have hstop : ∀ x : Piece, (pre.length = 30 ∨ nameOk x.1.data.toList = false) → KeepsFrom W0.heap.size W ((W.setCell ⟨w.heap.size, 0, none⟩ (.slice none 0 0)).setCell ⟨w.heap.size + 1, 0, none⟩ (.bool false)) ∧ (good (names (pre ++ [x])) = false ∧ (Boxed ((W.setCell ⟨w.heap.size, 0, none⟩ (.slice none 0 0)).setCell ⟨w.heap.size + 1, 0, none⟩ (.bool false)) w.heap.size 24 (.slice none 0 0) ∧ Boxed ((W.setCell ⟨w.heap.size, 0, none⟩ (.slice none 0 0)).setCell ⟨w.heap.size + 1, 0, none⟩ (.bool false)) (w.heap.size + 1) 4 (.bool false))) ∧ Below w.heap.size w ((W.setCell ⟨w.heap.size, 0, none⟩ (.slice none 0 0)).setCell ⟨w.heap.size + 1, 0, none⟩ (.bool false)) := by
          intro x hbad
          refine ⟨((KeepsOthers.setCell _ _ _).trans (KeepsOthers.setCell _ _ _)).from _, ⟨?_, (hr0.set _).other (by omega) _, (hr1.other (by omega) _).set _⟩, (hB.setCell (p := ⟨w.heap.size, 0, none⟩) (Nat.le_refl _) _).setCell (p := ⟨w.heap.size + 1, 0, none⟩) (by simp) _⟩
          rw [names_snoc]
          exact spGo_none_or [] _ _ (hbad.symm.imp_right (by rw [names_length]; exact id))
        have Hstop : Hid _ := hstop
        clear hstop
        by_cases h30 : pre.length = 30
        · have h30' : (pre.length : Int) = 30 := by omega
          gi_wp2
          refine ⟨trivial, ?_⟩
          gi_wp2
          have h := Hstop.out x (.inl h30)
          exact ⟨h.1, ⟨⟨rfl, h.2.1.1⟩, h.2.1.2⟩, h.2.2⟩
        · have h30' : ¬ (pre.length : Int) = 30 := by omega
          have h30b : ((pre.length : Int) == 30) = false := by simpa using h30'
          gi_wp2_with fail
          refine ⟨trivial, (CallsIn.inRound l (callsIn_wide.2 (nameI x.1 W x.2))).mono ?_⟩
          rintro e w1 ⟨rfl, hw⟩
          obtain rfl := hw.symm
          cases hnm : nameOk x.1.data.toList with
          | false =>
            gi_wp2
            have h := Hstop.out x (.inr hnm)
            exact ⟨h.1, ⟨⟨rfl, h.2.1.1⟩, h.2.1.2⟩, h.2.2⟩
          | true =>
            clear Hstop
            have hgd' : Hid (good (names (pre ++ [x])) = true) := by
              show _ = _
              rw [names_snoc]
              refine good_of (by simp [names_length]; have := good_len hgd; rw [names_length] at this; omega) (fun z hz => ?_)
              simp only [List.mem_append, List.mem_cons, List.not_mem_nil, or_false] at hz
              rcases hz with hz | rfl
              · exact good_all hgd z hz
              · exact hnm
            have hlen : pre.length < 30 := by have := good_len hgd; rw [names_length] at this; omega
            have hmx : Try.prog.follows .mixedOrders = true := by kernel_rfl
            clear hgd c0 f0 c1 f1 h30b
            have hwsz := hB.size
            have hf39 : Fence.wide.fn 39 := trivial
            gi_wp2
            refine wpIn_region_any hmx ?_
            change wpAnyIn _ _ _ _ _ _ _ _ _ (World.drew _)
            refine wpAnyIn_ready (rs := [0, 1]) (by kernel_rfl) (by simp) (AllReadyIn.cons rfl (fun K hK => ?a0) (AllReadyIn.cons rfl (fun K hK => ?a1) AllReadyIn.nil))
            case a0 =>
              go_simp
              refine hK _ _ ?_; clear hK K
              refine wpAnyIn_ready (rs := [1]) (by kernel_rfl) (by simp) (AllReadyIn.cons rfl (fun K hK => ?_) AllReadyIn.nil)
              go_simp
              refine hK _ _ ?_; clear hK K
              refine wpAnyIn_ready (rs := [2]) (by kernel_rfl) (by simp) (AllReadyIn.cons rfl (fun K hK => ?_) AllReadyIn.nil)
              go_simp
              refine (CallsIn.inRound l (callsIn_wide.2 (strClone x.1 _ x.2))).mono ?_
              rintro e w1 ⟨rfl, hbc⟩
              refine hK _ _ ?_; clear hK K
              have hv1 := boxed_below hbc hv
              have hrow1 := row_below hbc hrow
              have hc1 := hv1.cell
              have hs1 := hbc.size
              refine wpAnyIn_ready (rs := [3]) (by kernel_rfl) (by simp) (AllReadyIn.cons rfl (fun K hK => ?_) AllReadyIn.nil)
              go_simp
              refine hK _ _ ?_; clear hK K
              refine wpAnyIn_ready (rs := [4]) (by kernel_rfl) (by simp) (AllReadyIn.cons rfl (fun K hK => ?_) AllReadyIn.nil)
              refine stepS_in rfl (.tmp 30) (.tmp 33) rfl w.heap.size g pre.length c (pre.map fun x => Value.string x.1) rfl (hrow1.alloc _) w1.heap.size x.1 rfl (Boxed.new w1 9 (.string x.1)).cell (by omega) (by simp only [World.size_alloc]; exact Nat.le_trans hwsz (Nat.le_trans hs1 (Nat.le_succ _))) ?_
              intro g' cap' w2 hown' hgrow
              refine hK _ _ ?_; clear hK K
              obtain ⟨hv1', hv2, hr2, hk2, hb2⟩ := hv1.appended (by decide) hrow1 (Nat.le_trans hwsz hs1) (by omega) hown' hgrow
              have hc2 := hv1'.cell
              have hf2 := hv1'.frozen
              refine wpAnyIn_ready (rs := [5]) (by kernel_rfl) (by simp) (AllReadyIn.cons rfl (fun K hK => ?_) AllReadyIn.nil)
              go_simp
              refine hK _ _ ?_; clear hK K
              refine wpAnyIn_done (by kernel_rfl) ?_ _
              have q0 := (((boxed_below hbc hr0).alloc (.cells #[.string x.1] 9)).kept hgrow ((boxed_below hbc hr0).not_row (by decide) hrow1)).other (B' := w.heap.size + 1 + 1 + 1) (by omega) (.slice (some ⟨g', 0, none⟩) (pre.length + 1) cap')
              have q1 := (((boxed_below hbc hr1).alloc (.cells #[.string x.1] 9)).kept hgrow ((boxed_below hbc hr1).not_row (by decide) hrow1)).other (B' := w.heap.size + 1 + 1 + 1) (by omega) (.slice (some ⟨g', 0, none⟩) (pre.length + 1) cap')
              have hbb : Below w.heap.size W (w2.setCell ⟨w.heap.size + 1 + 1 + 1, 0, none⟩ (.slice (some ⟨g', 0, none⟩) (pre.length + 1) cap')) := (Below.refl _ W).drew.trans ((hbc.mono hwsz).trans hb2)
              exact ⟨((KeepsOthers.drew W).trans ((keeps_below hbc).trans hk2)).from _, hbb, ⟨⟨_, hv2, by simpa using hr2, g', cap', by simp⟩, q0, q1, hgd'.out⟩, hB.trans hbb⟩
            case a1 =>
              go_simp
              refine hK _ _ ?_; clear hK K
              refine wpAnyIn_ready (rs := [0, 2]) (by kernel_rfl) (by simp) (AllReadyIn.cons rfl (fun K hK => ?b0) (AllReadyIn.cons rfl (fun K hK => ?b1) AllReadyIn.nil))
              case b0 =>
                go_simp
                refine hK _ _ ?_; clear hK K
                refine wpAnyIn_ready (rs := [2]) (by kernel_rfl) (by simp) (AllReadyIn.cons rfl (fun K hK => ?_) AllReadyIn.nil)
                go_simp
                refine (CallsIn.inRound l (callsIn_wide.2 (strClone x.1 _ x.2))).mono ?_
                rintro e w1 ⟨rfl, hbc⟩
                refine hK _ _ ?_; clear hK K
                have hv1 := boxed_below hbc hv
                have hrow1 := row_below hbc hrow
                have hc1 := hv1.cell
                have hs1 := hbc.size
                refine wpAnyIn_ready (rs := [3]) (by kernel_rfl) (by simp) (AllReadyIn.cons rfl (fun K hK => ?_) AllReadyIn.nil)
                go_simp
                refine hK _ _ ?_; clear hK K
                refine wpAnyIn_ready (rs := [4]) (by kernel_rfl) (by simp) (AllReadyIn.cons rfl (fun K hK => ?_) AllReadyIn.nil)
                refine stepS_in rfl (.tmp 30) (.tmp 33) rfl w.heap.size g pre.length c (pre.map fun x => Value.string x.1) rfl (hrow1.alloc _) w1.heap.size x.1 rfl (Boxed.new w1 9 (.string x.1)).cell (by omega) (by simp only [World.size_alloc]; exact Nat.le_trans hwsz (Nat.le_trans hs1 (Nat.le_succ _))) ?_
                intro g' cap' w2 hown' hgrow
                refine hK _ _ ?_; clear hK K
                obtain ⟨hv1', hv2, hr2, hk2, hb2⟩ := hv1.appended (by decide) hrow1 (Nat.le_trans hwsz hs1) (by omega) hown' hgrow
                have hc2 := hv1'.cell
                have hf2 := hv1'.frozen
                refine wpAnyIn_ready (rs := [5]) (by kernel_rfl) (by simp) (AllReadyIn.cons rfl (fun K hK => ?_) AllReadyIn.nil)
                go_simp
                refine hK _ _ ?_; clear hK K
                refine wpAnyIn_done (by kernel_rfl) ?_ _
                have q0 := (((boxed_below hbc hr0).alloc (.cells #[.string x.1] 9)).kept hgrow ((boxed_below hbc hr0).not_row (by decide) hrow1)).other (B' := w.heap.size + 1 + 1 + 1) (by omega) (.slice (some ⟨g', 0, none⟩) (pre.length + 1) cap')
                have q1 := (((boxed_below hbc hr1).alloc (.cells #[.string x.1] 9)).kept hgrow ((boxed_below hbc hr1).not_row (by decide) hrow1)).other (B' := w.heap.size + 1 + 1 + 1) (by omega) (.slice (some ⟨g', 0, none⟩) (pre.length + 1) cap')
                have hbb : Below w.heap.size W (w2.setCell ⟨w.heap.size + 1 + 1 + 1, 0, none⟩ (.slice (some ⟨g', 0, none⟩) (pre.length + 1) cap')) := (Below.refl _ W).drew.trans ((hbc.mono hwsz).trans hb2)
                exact ⟨((KeepsOthers.drew W).trans ((keeps_below hbc).trans hk2)).from _, hbb, ⟨⟨_, hv2, by simpa using hr2, g', cap', by simp⟩, q0, q1, hgd'.out⟩, hB.trans hbb⟩
              case b1 =>
                go_simp
                refine (CallsIn.inRound l (callsIn_wide.2 (strClone x.1 _ x.2))).mono ?_
                rintro e w1 ⟨rfl, hbc⟩
                refine hK _ _ ?_; clear hK K
                have hv1 := boxed_below hbc hv
                have hrow1 := row_below hbc hrow
                have hc1 := hv1.cell
                have hs1 := hbc.size
                refine wpAnyIn_ready (rs := [0, 3]) (by kernel_rfl) (by simp) (AllReadyIn.cons rfl (fun K hK => ?c0) (AllReadyIn.cons rfl (fun K hK => ?c1) AllReadyIn.nil))
                case c0 =>
                  go_simp
                  refine hK _ _ ?_; clear hK K
                  refine wpAnyIn_ready (rs := [3]) (by kernel_rfl) (by simp) (AllReadyIn.cons rfl (fun K hK => ?_) AllReadyIn.nil)
                  go_simp
                  refine hK _ _ ?_; clear hK K
                  refine wpAnyIn_ready (rs := [4]) (by kernel_rfl) (by simp) (AllReadyIn.cons rfl (fun K hK => ?_) AllReadyIn.nil)
                  refine stepS_in rfl (.tmp 30) (.tmp 33) rfl w.heap.size g pre.length c (pre.map fun x => Value.string x.1) rfl (hrow1.alloc _) w1.heap.size x.1 rfl (Boxed.new w1 9 (.string x.1)).cell (by omega) (by simp only [World.size_alloc]; exact Nat.le_trans hwsz (Nat.le_trans hs1 (Nat.le_succ _))) ?_
                  intro g' cap' w2 hown' hgrow
                  refine hK _ _ ?_; clear hK K
                  obtain ⟨hv1', hv2, hr2, hk2, hb2⟩ := hv1.appended (by decide) hrow1 (Nat.le_trans hwsz hs1) (by omega) hown' hgrow
                  have hc2 := hv1'.cell
                  have hf2 := hv1'.frozen
                  refine wpAnyIn_ready (rs := [5]) (by kernel_rfl) (by simp) (AllReadyIn.cons rfl (fun K hK => ?_) AllReadyIn.nil)
                  go_simp
                  refine hK _ _ ?_; clear hK K
                  refine wpAnyIn_done (by kernel_rfl) ?_ _
                  have q0 := (((boxed_below hbc hr0).alloc (.cells #[.string x.1] 9)).kept hgrow ((boxed_below hbc hr0).not_row (by decide) hrow1)).other (B' := w.heap.size + 1 + 1 + 1) (by omega) (.slice (some ⟨g', 0, none⟩) (pre.length + 1) cap')
                  have q1 := (((boxed_below hbc hr1).alloc (.cells #[.string x.1] 9)).kept hgrow ((boxed_below hbc hr1).not_row (by decide) hrow1)).other (B' := w.heap.size + 1 + 1 + 1) (by omega) (.slice (some ⟨g', 0, none⟩) (pre.length + 1) cap')
                  have hbb : Below w.heap.size W (w2.setCell ⟨w.heap.size + 1 + 1 + 1, 0, none⟩ (.slice (some ⟨g', 0, none⟩) (pre.length + 1) cap')) := (Below.refl _ W).drew.trans ((hbc.mono hwsz).trans hb2)
                  exact ⟨((KeepsOthers.drew W).trans ((keeps_below hbc).trans hk2)).from _, hbb, ⟨⟨_, hv2, by simpa using hr2, g', cap', by simp⟩, q0, q1, hgd'.out⟩, hB.trans hbb⟩
                case c1 =>
                  go_simp
                  refine hK _ _ ?_; clear hK K
                  have hc1a := (hv1.alloc (.cells #[.string x.1] 9)).cell
                  refine wpAnyIn_ready (rs := [0]) (by kernel_rfl) (by simp) (AllReadyIn.cons rfl (fun K hK => ?_) AllReadyIn.nil)
                  go_simp
                  refine hK _ _ ?_; clear hK K
                  refine wpAnyIn_ready (rs := [4]) (by kernel_rfl) (by simp) (AllReadyIn.cons rfl (fun K hK => ?_) AllReadyIn.nil)
                  refine stepS_in rfl (.tmp 30) (.tmp 33) rfl w.heap.size g pre.length c (pre.map fun x => Value.string x.1) rfl (hrow1.alloc _) w1.heap.size x.1 rfl (Boxed.new w1 9 (.string x.1)).cell (by omega) (by simp only [World.size_alloc]; exact Nat.le_trans hwsz (Nat.le_trans hs1 (Nat.le_succ _))) ?_
                  intro g' cap' w2 hown' hgrow
                  refine hK _ _ ?_; clear hK K
                  obtain ⟨hv1', hv2, hr2, hk2, hb2⟩ := hv1.appended (by decide) hrow1 (Nat.le_trans hwsz hs1) (by omega) hown' hgrow
                  have hc2 := hv1'.cell
                  have hf2 := hv1'.frozen
                  refine wpAnyIn_ready (rs := [5]) (by kernel_rfl) (by simp) (AllReadyIn.cons rfl (fun K hK => ?_) AllReadyIn.nil)
                  go_simp
                  refine hK _ _ ?_; clear hK K
                  refine wpAnyIn_done (by kernel_rfl) ?_ _
                  have q0 := (((boxed_below hbc hr0).alloc (.cells #[.string x.1] 9)).kept hgrow ((boxed_below hbc hr0).not_row (by decide) hrow1)).other (B' := w.heap.size + 1 + 1 + 1) (by omega) (.slice (some ⟨g', 0, none⟩) (pre.length + 1) cap')
                  have q1 := (((boxed_below hbc hr1).alloc (.cells #[.string x.1] 9)).kept hgrow ((boxed_below hbc hr1).not_row (by decide) hrow1)).other (B' := w.heap.size + 1 + 1 + 1) (by omega) (.slice (some ⟨g', 0, none⟩) (pre.length + 1) cap')
                  have hbb : Below w.heap.size W (w2.setCell ⟨w.heap.size + 1 + 1 + 1, 0, none⟩ (.slice (some ⟨g', 0, none⟩) (pre.length + 1) cap')) := (Below.refl _ W).drew.trans ((hbc.mono hwsz).trans hb2)
                  exact ⟨((KeepsOthers.drew W).trans ((keeps_below hbc).trans hk2)).from _, hbb, ⟨⟨_, hv2, by simpa using hr2, g', cap', by simp⟩, q0, q1, hgd'.out⟩, hB.trans hbb⟩
      case done =>
        rintro D ys W hD hys ⟨⟨⟨v, hv, hrow, g, c, rfl⟩, hr0, hr1, hgd⟩, hB⟩ hK
        have hc := hv.cell
        have c0 := hr0.cell
        have f0 := hr0.frozen
        have c1 := hr1.cell
        have f1 := hr1.frozen
        gi_wp2
        have hK' := ((KeepsOthers.setCell W ⟨w.heap.size, 0, none⟩ (.slice (some ⟨g, 0, none⟩) ys.length c)).trans (KeepsOthers.setCell _ ⟨w.heap.size + 1, 0, none⟩ (.bool true))).same D _ hK rfl
        have q0 := (hr0.set (.slice (some ⟨g, 0, none⟩) ys.length c)).other (B' := w.heap.size + 1) (by omega) (.bool true)
        have q1 := (hr1.other (B' := w.heap.size) (by omega) (.slice (some ⟨g, 0, none⟩) ys.length c)).set (.bool true)
        have d0 := cell_kept q0.cell (grownBy_putObj' _ D (.deferred none)) (fun r e => by cases e; exact ⟨_, hK', rfl⟩)
        have d1 := cell_kept q1.cell (grownBy_putObj' _ D (.deferred none)) (fun r e => by cases e; exact ⟨_, hK', rfl⟩)
        have hr1' := World.ownsRow.kept hrow (grownBy_setCell' W w.heap.size (.slice (some ⟨g, 0, none⟩) ys.length c)) (.inr (hr0.not_row (by decide) hrow).symm)
        have hr2' := World.ownsRow.kept hr1' (grownBy_setCell' _ (w.heap.size + 1) (.bool true)) (.inr ((hr1.other (B' := w.heap.size) (by omega) _).not_row (by decide) hr1').symm)
        have hr3' := ownsRow_putObj hr2' (.deferred none) hK' rfl
        have hgl := (World.ownsRow.lt hr3' g rfl).1
        have hbw := ((hB.setCell (p := ⟨w.heap.size, 0, none⟩) (Nat.le_refl _) (.slice (some ⟨g, 0, none⟩) ys.length c)).setCell (p := ⟨w.heap.size + 1, 0, none⟩) (by simp) (.bool true)).trans (belowK_b (w := W0) (by omega) _ D _ (.deferred none) hD hK' rfl rfl)
        refine ⟨by simp, .inl ⟨_, _, rfl, run_takeDeferred hK', ?_⟩⟩
        refine ⟨.tuple #[.slice (some ⟨g, 0, none⟩) ys.length c, .bool true], ?_, hbw, .inr ⟨ys.map (·.1), g, c, ?_, by simp, hgl, ?_⟩⟩
        · simp [results, Try.f14, go_sem, d0, d1]
        · have hys' : pieces r = names ys := hys.symm
          rw [hsp, hys', if_pos hgd]
          simp [names, strs]
        · unfold OwnS
          simp only [List.length_map, List.map_map]
          exact row_base hr3'
      case stop =>
        rintro D c pre W hD hpre ⟨⟨⟨rfl, hbad⟩, hr0, hr1⟩, hB⟩ hK
        gi_wp2
        have d0 := cell_kept hr0.cell (grownBy_putObj' _ D (.deferred none)) (fun r e => by cases e; exact ⟨_, hK, rfl⟩)
        have d1 := cell_kept hr1.cell (grownBy_putObj' _ D (.deferred none)) (fun r e => by cases e; exact ⟨_, hK, rfl⟩)
        refine ⟨by simp, .inl ⟨_, _, rfl, run_takeDeferred hK, ?_⟩⟩
        refine ⟨.tuple #[.slice none 0 0, .bool false], ?_, hB.trans (belowK_b (w := W0) (by omega) W D _ (.deferred none) hD hK rfl rfl), .inl ⟨?_, _, _, rfl⟩⟩
        · simp [results, Try.f14, go_sem, d0, d1]
        · rw [hsp, if_neg]
          intro hg
          rw [good_prefix hg hpre] at hbad
          simp at hbad
  · have hsp : splitOf s.data.toList = none := by
      cases hd : s.data.toList with
      | nil => rfl
      | cons c r => rw [splitOf_cons, if_neg]; rintro rfl; exact hno r hd
    gi_wp2
    refine ⟨.tuple #[.slice none 0 0, .bool false], ?_, ?_⟩
    · simp [results, Try.f14, go_sem]
    · exact ⟨((Below.refl _ w).alloc (Nat.le_refl _) _).alloc (by simp) _, .inl ⟨hsp, _, _, rfl⟩⟩
end Go.Proofs.Ytgdloohafkanhaa
