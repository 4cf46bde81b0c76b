/-
  Joined: Ints, PutI, Next7, PathsS, Reach.
-/
import Derived.Test.YtnadeelnjhollaaGreatSMV
import Derived.Test.YtnadeelnjhollaaGreatAtS2V
import Derived.Test.YtnadeelnjhollaaGreatDropQV
import Derived.Test.YtnadeelnjhollaaGreatPathsV
namespace Go.Proofs.YtnadeelnjhollaaGreat
section
open Go.RowKit
/-- The values can be read from an address on. -/
def RdV (w : World) (a : Option Addr) (vs : List Value) : Prop := vs = [] ∨ ∃ b off, a = some ⟨b, off, none⟩ ∧ ∀ (i : Nat) (v : Value), vs[i]? = some v → w.cell? ⟨b, off + i, none⟩ = some v
theorem RdV.lt {w : World} {a : Option Addr} {vs : List Value} (h : RdV w a vs) (hz : vs ≠ []) : ∃ b off, a = some ⟨b, off, none⟩ ∧ b < w.heap.size ∧ ∀ (i : Nat) (v : Value), vs[i]? = some v → w.cell? ⟨b, off + i, none⟩ = some v := by
  rcases h with h | ⟨b, off, rfl, hc⟩
  · exact absurd h hz
  · obtain ⟨v, l, rfl⟩ := List.exists_cons_of_ne_nil hz
    exact ⟨b, off, rfl, World.block_lt_of_cell? w _ (hc 0 v rfl), hc⟩
theorem RdV.keep {w w' : World} {a : Option Addr} {vs : List Value} (h : RdV w a vs) (hb : Below w.heap.size w w') : RdV w' a vs := by
  by_cases hz : vs = []
  · exact .inl hz
  · obtain ⟨b, off, rfl, hlt, hc⟩ := h.lt hz
    exact .inr ⟨b, off, rfl, fun i v hi => (hb.cell (p := ⟨b, off + i, none⟩) hlt).trans (hc i v hi)⟩
theorem rowV_rd {w : World} {B : Nat} {e : TypeId} {g n c : Nat} {vs : List Value} (h : w.ownsRow B e 1 (.slice (some ⟨g, 0, none⟩) n c) n vs) : RdV w (some ⟨g, 0, none⟩) vs := by
  refine .inr ⟨g, 0, rfl, fun i v hi => ?_⟩
  have hl := (List.getElem?_eq_some_iff.1 hi).1
  have hn := h.1
  rw [Nat.zero_add, World.ownsRow.cellAt h i (by omega)]
  exact hi
/-- Numbers as cells. -/
def iV (xs : List Int) : List Value := xs.map (Value.int .i64)
theorem iV_len (xs : List Int) : (iV xs).length = xs.length := by simp [iV]
theorem iV_at {xs : List Int} {k : Nat} {x : Int} (h : xs[k]? = some x) : (iV xs)[k]? = some (.int .i64 x) := by simp [iV, h]
theorem iV_one (xs : List Int) : ∀ u ∈ iV xs, u.oneCell' = true := fun u hu => by obtain ⟨z, _, rfl⟩ := List.mem_map.1 hu; rfl
theorem Tryz.info3 : (Tryz.prog.info? 3).map (fun i => (i.zero, i.size, i.bytes)) = some (some (.int .i64 0), 1, 8) := by kernel_rfl
/-- A row of one cell an element, appended to a fresh empty one. -/
theorem fresh_vals (W : World) (B g : Nat) (t e : TypeId) (i : TypeInfo) (z : Value) (bytes : Nat) (ht : Tryz.prog.underlying t = some (.slice e)) (hi : Tryz.prog.info? e = some i) (hz : i.zero = some z) (hsize : i.size = 1) (hby : i.bytes = bytes) (hzs : z.cells.size = 1) (hb64 : bytes ≤ 64) (a : Option Addr) (n c : Nat) (vs : List Value) (hn : vs.length = n) (hs : n ≤ 8000000) (hone : ∀ u ∈ vs, u.oneCell' = true) (hB : B ≤ g) (hown : W.ownsRow B e 1 (.slice (some ⟨g, 0, none⟩) 0 0) 0 []) (hr : RdV W a vs) (ty : TypeId) :
    ∃ g' c' W', (Builtin.append_ #[t, t] ty #[.slice (some ⟨g, 0, none⟩) 0 0, .slice a n c]).run Tryz.prog W = .ok (.slice (some ⟨g', 0, none⟩) n c') W' ∧ W'.ownsRow B e 1 (.slice (some ⟨g', 0, none⟩) n c') n vs ∧ B ≤ g' ∧ g' < W'.heap.size ∧ Below W.heap.size W W' := by
  refine run_fresh W B t ty e i z 1 bytes ht hi hz hsize hby hzs (by omega) g hB hown a n c vs (by simp [hn]) ?_ (fun _ => by cases a with | none => exact .inl rfl | some ad => exact .inr ⟨ad, rfl⟩) hone hs hb64
  rcases hr with rfl | ⟨b, off, rfl, hc⟩
  · exact .inl rfl
  · exact .inr ⟨_, rfl, fun j u hj => by rw [show (⟨b, off, none⟩ : Addr).add j = ⟨b, off + j, none⟩ by simp [Addr.add]]; exact hc j u hj⟩
/-- One more element of one cell. -/
theorem wpList_app1 (w : World) {ops : Array Oper} {rest : List Oper} {o : Oper} {a : Act} {Q : Exit → Act → World → Prop} (hgd : o.guard = none) (s x : Operand) (t e : TypeId)
    (ho : o.op = .call { callee := .builtin .append, args := #[s, x], argTypes := #[t, t] }) (ht : Tryz.prog.underlying t = some (.slice e)) (i : TypeInfo) (z : Value) (bytes : Nat) (hi : Tryz.prog.info? e = some i) (hz : i.zero = some z) (hsz : i.size = 1) (hby : i.bytes = bytes) (hzs : z.cells.size = 1) (hb64 : bytes ≤ 64)
    (B g k c : Nat) (vs : List Value) (hs : a.eval s = .slice (some ⟨g, 0, none⟩) k c) (hown : w.ownsRow B e 1 (.slice (some ⟨g, 0, none⟩) k c) k vs)
    (ad : Nat) (u : Value) (hx : a.eval x = .slice (some ⟨ad, 0, none⟩) 1 1) (hcell : w.cell? ⟨ad, 0, none⟩ = some u) (hone : u.oneCell' = true) (hk : k ≤ 8000000) (hB : B ≤ w.heap.size) (H : Nat) (hH : w.heap.size = H)
    (h : ∀ g' c' w', w'.ownsRow B e 1 (.slice (some ⟨g', 0, none⟩) (k + 1) c') (k + 1) (vs ++ [u]) → w.grownBy w' (some g) → (g' = g ∨ g' = H) → wpList Tryz.prog ops Q rest (a.put o.dst (.slice (some ⟨g', 0, none⟩) (k + 1) c')) w') :
    wpList Tryz.prog ops Q (o :: rest) a w := by
  refine wpList_append_own_at w hgd s x t ho B e i z 1 bytes ht hi hz hsz hby hzs (by decide) _ k vs hs hown ⟨ad, 0, none⟩ 1 1 [u] hx rfl ?_ (by intro y hy; simp at hy; subst hy; exact hone) (by unfold maxLen; omega) (by have : (k + 1) * bytes ≤ 8000001 * 64 := Nat.mul_le_mul (by omega) hb64; omega) hB ?_
  · intro j y hj
    cases j with
    | zero => simp at hj; subst hj; simpa [Addr.add] using hcell
    | succ j => simp at hj
  · intro v' w' h1 h2 _ h4
    obtain ⟨g', c', rfl⟩ := ownsRow_succ h1
    refine h g' c' w' h1 h2 ?_
    rcases h4 with h4 | h4
    · left; simpa [Value.ownBlock] using h4
    · right; rw [← hH]; simpa [Value.ownBlock] using h4
set_option maxRecDepth 100000 in
set_option maxHeartbeats 2000000 in
theorem l7HasS (a : Option Addr) (n cap : Nat) (x : Int) (xs : List Int) (w : World) (hn : xs.length = n) (hs : n ≤ 4000000) (hr : RdV w a (iV xs)) :
    Calls Tryz.prog 153 #[.slice a n cap, .int .i64 x] w fun e w' => e = .returned (.bool (decide (x ∈ xs))) ∧ w' = w := by
  have hn' : Hid (xs.length = n) := hn
  have HR : Hid _ := hr
  have hR : Hid (∀ k : Nat, xs[k]? = some x → true = decide (x ∈ xs)) := fun k hk => by
    have := List.mem_of_getElem? hk
    simp [this]
  have hE : Hid ((∀ j, j < n → xs[j]? ≠ some x) → false = decide (x ∈ xs)) := by
    intro h
    have : x ∉ xs := fun hm => by
      obtain ⟨j, hj⟩ := List.getElem?_of_mem hm
      exact h j (by rw [← hn]; exact (List.getElem?_eq_some_iff.1 hj).1) hj
    simp [this]
  generalize decide (x ∈ xs) = R at hR hE ⊢
  clear hr hn
  go_enter Tryz.func153, Tryz.ntmps153
  go_wp2
  go_loop [5] (fun i => ∃ k : Nat, k ≤ n ∧ i = .int .i64 k ∧ Hid (∀ j, j < k → xs[j]? ≠ some x)) (fun i => n - (intOf i).toNat)
  case atStart => exact ⟨0, Nat.zero_le _, rfl, fun j hj => by omega⟩
  case round =>
    obtain ⟨k, hk, rfl, hall⟩ := hrel
    by_cases hkn : k < n
    · have hki : (k : Int) < (n : Int) := by omega
      have hkl : k < xs.length := by rw [hn'.out]; exact hkn
      obtain ⟨y, hy⟩ : ∃ y, xs[k]? = some y := ⟨_, List.getElem?_eq_getElem hkl⟩
      obtain ⟨b, off, rfl, hlt, hc⟩ := RdV.lt HR.out (by intro h; have := congrArg List.length h; rw [iV_len] at this; simp at this; rw [this] at hkl; simp at hkl)
      have x0 := hc k _ (iV_at hy)
      have hyes : Hid (y = x → true = R) := fun he => hR.out k (he ▸ hy)
      have hno : Hid (y ≠ x → ∀ j, j < k + 1 → xs[j]? ≠ some x) := by
        intro he j hj
        rcases (show j < k ∨ j = k by omega) with h | rfl
        · exact hall.out j h
        · rw [hy]
          simpa using he
      clear hc hy hall hR hE HR
      by_cases he : y = x
      · have hb : (y == x) = true := by simp [he]
        have hend : Hid (true = R) := hyes.out he
        subst he
        clear hyes hno
        go_wp2
        go_ret
        exact ⟨ret_bool hend.out, rfl⟩
      · have hb : (y == x) = false := by simp [he]
        have hnx : Hid _ := hno.out he
        clear hyes hno
        go_wp2
        go_round
        case rel => exact ⟨k + 1, by omega, by go_num, hnx⟩
        case measure => simp [intOf]; omega
    · have hki : ¬ (k : Int) < (n : Int) := by omega
      have hend : Hid (false = R) := hE.out (fun j hj => hall.out j (by omega))
      clear hR hE HR hall
      go_wp2
      go_ret
      exact ⟨ret_bool hend.out, rfl⟩
/-- The row while the greater ones are moved. -/
theorem hole_step {α : Type} {l : List α} {q : Nat} {y : α} (u : α) (h : l[q]? = some y) : (l.take (q + 1) ++ u :: l.drop (q + 1)).set (q + 1) y = l.take q ++ y :: l.drop q := by
  have hq := (List.getElem?_eq_some_iff.1 h).1
  have h1 : (l.take (q + 1)).length = q + 1 := by simp; omega
  rw [List.set_append_right _ _ (by omega), h1, Nat.sub_self, List.set_cons_zero, List.take_add_one, h]
  have h2 : l.drop q = y :: l.drop (q + 1) := by
    rw [List.drop_eq_getElem_cons hq]
    congr 1
    exact (List.getElem?_eq_some_iff.1 h).2
  rw [h2]
  simp
theorem hole_end {α : Type} {l : List α} {p : Nat} (u x : α) (hp : p ≤ l.length) : (l.take p ++ u :: l.drop p).set p x = l.take p ++ x :: l.drop p := by
  have h1 : (l.take p).length = p := by simp; omega
  rw [List.set_append_right _ _ (by omega), h1, Nat.sub_self, List.set_cons_zero]
theorem hole_left {α : Type} {l : List α} {p q : Nat} {y : α} (u : α) (hq : q < p) (hp : p ≤ l.length) (h : l[q]? = some y) : (l.take p ++ u :: l.drop p)[q]? = some y := by
  rw [List.getElem?_append_left (by simp; omega), List.getElem?_take_of_lt hq, h]
theorem hole_len {α : Type} {l : List α} {p : Nat} (u : α) (hp : p ≤ l.length) : (l.take p ++ u :: l.drop p).length = l.length + 1 := by simp; omega
theorem drop_mem {α : Type} {l : List α} {q : Nat} {y z : α} (h : l[q]? = some y) (hz : z ∈ l.drop q) : z = y ∨ z ∈ l.drop (q + 1) := by
  have hq := (List.getElem?_eq_some_iff.1 h).1
  rw [List.drop_eq_getElem_cons hq] at hz
  rcases List.mem_cons.1 hz with hz | hz
  · exact .inl (hz.trans (List.getElem?_eq_some_iff.1 h).2)
  · exact .inr hz
end

section
open Go.RowKit
set_option maxRecDepth 100000 in
set_option maxHeartbeats 4000000 in
theorem l7PutS (a : Option Addr) (n cap : Nat) (x : Int) (xs : List Int) (w : World) (hn : xs.length = n) (hs : n ≤ 4000000) (hr : RdV w a (iV xs)) :
    Calls Tryz.prog 112 #[.slice a n cap, .int .i64 x] w fun e w' => ∃ a' c', e = .returned (.slice a' (putI xs x).length c') ∧ RdV w' a' (iV (putI xs x)) ∧ Below w.heap.size w w' := by
  have hcH := l7HasS a n cap x xs w hn hs hr
  by_cases hx : x ∈ xs
  · have hp : putI xs x = xs := by unfold putI; rw [if_pos hx]
    rw [hp, hn]
    have HR : Hid _ := hr
    rw [decide_eq_true hx] at hcH
    clear hr hp hx hn
    go_enter Tryz.func112, Tryz.ntmps112
    go_wp2_with fail
    (with_reducible refine hcH.mono ?_)
    rintro e w1 ⟨rfl, hw1⟩
    obtain rfl := hw1.symm
    clear hcH
    go_wp2
    go_ret
    exact ⟨a, cap, rfl, HR.out, Below.refl _ _⟩
  · have hp : putI xs x = insBy (fun y => decide (x < y)) xs x := by unfold putI; rw [if_neg hx]
    rw [hp, insBy_len, hn]
    rw [decide_eq_false hx] at hcH
    have hn' : Hid (xs.length = n) := hn
    obtain ⟨i0, hi, hz0, hz1, hz2⟩ := info_parts Tryz.info3
    have hfr := fun ty => fresh_vals (w.alloc (.cells #[] 3)) w.heap.size w.heap.size 41 3 i0 (.int .i64 0) 8 Tryz.underlying41 hi hz0 hz1 hz2 rfl (by omega) a n cap (iV xs) (by rw [iV_len, hn]) (by omega) (iV_one xs) (Nat.le_refl _) (empty_row w w.heap.size 3 1 (Nat.le_refl _)) (hr.keep ((Below.refl _ w).alloc (Nat.le_refl _) _)) ty
    have BA : Below w.heap.size w (w.alloc (.cells #[] 3)) := (Below.refl _ w).alloc (Nat.le_refl _) _
    have HF : Hid _ := hfr
    clear hp hx hn hr hfr
    go_enter Tryz.func112, Tryz.ntmps112
    go_wp2_with fail
    (with_reducible refine hcH.mono ?_)
    rintro e w1 ⟨rfl, hw1⟩
    obtain rfl := hw1.symm
    clear hcH
    go_wp2_with (at_builtin; (first | refine wpList_fresh _ rfl (.tmp 11) (.tmp 12) 41 rfl w.heap.size w.heap.size a n cap 3 1 (iV xs) rfl rfl HF.out ?_; intro g1 c1 W1 o1 hg1 hl1 hb1 | refine wpList_app1 (W1.alloc (.cells #[.int .i64 x] 3)) rfl (.tmp 13) (.tmp 15) 41 3 rfl Tryz.underlying41 i0 (.int .i64 0) 8 hi hz0 hz1 hz2 rfl (by omega) w.heap.size g1 n c1 (iV xs) rfl (World.ownsRow.alloc o1 _) W1.heap.size (.int .i64 x) rfl (Blk.new W1 3 #[.int .i64 x] |>.cell 0) rfl (by omega) (by have := BA.size; have := hb1.size; simp at this ⊢; omega) (W1.heap.size + 1) (by simp) ?_; intro g2 c2 W2 o2 hg2 hat2))
    have hb2 : Below w.heap.size w W2 := by
      have h1 : Below w.heap.size w W1 := BA.trans (hb1.mono BA.size)
      have h2 := h1.alloc h1.size (.cells #[.int .i64 x] 3)
      exact h2.grown hg2 h2.size (fun m hm => by simp at hm; omega)
    have o2' : W2.ownsRow w.heap.size 3 1 (.slice (some ⟨g2, 0, none⟩) (n + 1) c2) (n + 1) (iV (xs.take n ++ x :: xs.drop n)) := by
      have e : iV (xs.take n ++ x :: xs.drop n) = iV xs ++ [.int .i64 x] := by
        rw [List.take_of_length_le (by rw [hn'.out]; omega), List.drop_of_length_le (by rw [hn'.out]; omega)]
        simp [iV]
      rw [e]
      exact o2
    have hgl : w.heap.size ≤ g2 := (World.ownsRow.lt o2 g2 rfl).1
    clear o1 o2 hg2 hb1 hat2 HF BA hl1 hi hz0 hz1 hz2
    go_loopw [6] (fun k wr => ∃ (p : Nat) (u : Int), p ≤ n ∧ k = .int .i64 p ∧ wr.ownsRow w.heap.size 3 1 (.slice (some ⟨g2, 0, none⟩) (n + 1) c2) (n + 1) (iV (xs.take p ++ u :: xs.drop p)) ∧ Below w.heap.size w wr ∧ Hid (∀ y ∈ xs.drop p, decide (x < y) = true)) (fun k _ => (intOf k).toNat)
    case atStart => exact ⟨n, x, Nat.le_refl _, by go_num, o2', hb2, fun y hy => by rw [List.drop_of_length_le (by rw [hn'.out]; omega)] at hy; simp at hy⟩
    case round =>
      obtain ⟨p, u, hp, rfl, ho, hb, hgt⟩ := hrel
      clear o2' hb2
      have fin : Hid (∀ W : World, W = wr.setCell ⟨g2, p, none⟩ (.int .i64 x) → (p = 0 ∨ ∃ y, xs[p - 1]? = some y ∧ decide (x < y) = false) → RdV W (some ⟨g2, 0, none⟩) (iV (insBy (fun y => decide (x < y)) xs x)) ∧ Below w.heap.size w W) := by
        intro W hW hc
        subst hW
        have h1 := (World.ownsRow.stored ho p (.int .i64 x)).1
        have e : (iV (xs.take p ++ u :: xs.drop p)).set p (.int .i64 x) = iV (insBy (fun y => decide (x < y)) xs x) := by
          rw [insBy_at (by rw [hn'.out]; exact hp) hgt.out hc]
          unfold iV
          rw [← List.map_set, hole_end u x (by rw [hn'.out]; exact hp)]
        rw [e] at h1
        exact ⟨rowV_rd h1, hb.setCell (p := ⟨g2, p, none⟩) hgl _⟩
      have hlen := hole_len u (show p ≤ xs.length by rw [hn'.out]; exact hp)
      have hcp := World.ownsRow.cellAt ho p (by omega)
      have hfp := World.ownsRow.frozenAt ho p
      obtain ⟨V, hV⟩ : ∃ V, (iV (xs.take p ++ u :: xs.drop p))[p]? = some V := ⟨_, List.getElem?_eq_getElem (by rw [iV_len, hlen, hn'.out]; omega)⟩
      rw [hV] at hcp
      have hpn1 : (p : Int) < ((n + 1 : Nat) : Int) := by omega
      have hp0' : (0 : Int) ≤ (p : Int) := by omega
      rcases Nat.eq_zero_or_pos p with rfl | hpos
      · have HD : Hid _ := fin.out _ rfl (.inl rfl)
        clear fin ho hb hgt hV hlen
        go_wp2
        go_ret
        exact ⟨_, _, rfl, HD.out⟩
      · obtain ⟨q, rfl⟩ : ∃ q, p = q + 1 := ⟨p - 1, by omega⟩
        have hql : q < xs.length := by rw [hn'.out]; omega
        obtain ⟨y, hy⟩ : ∃ y, xs[q]? = some y := ⟨_, List.getElem?_eq_getElem hql⟩
        have hcq := World.ownsRow.cellAt ho q (by omega)
        rw [iV_at (hole_left u (Nat.lt_succ_self q) (by rw [hn'.out]; exact hp) hy)] at hcq
        have hgt0 : (0 : Int) < ((q + 1 : Nat) : Int) := by omega
        have hqn : (q : Int) < ((n + 1 : Nat) : Int) := by omega
        have hq0 : (0 : Int) ≤ (q : Int) := by omega
        have hsub : (((q + 1 : Nat) : Int) - 1) = (q : Int) := by omega
        by_cases hxy : x < y
        · have hst := (World.ownsRow.stored ho (q + 1) (.int .i64 y)).1
          have e : (iV (xs.take (q + 1) ++ u :: xs.drop (q + 1))).set (q + 1) (.int .i64 y) = iV (xs.take q ++ y :: xs.drop q) := by
            unfold iV
            rw [← List.map_set, hole_step u hy]
          rw [e] at hst
          have hb' := hb.setCell (p := ⟨g2, q + 1, none⟩) hgl (.int .i64 y)
          have hgt' : Hid (∀ z ∈ xs.drop q, decide (x < z) = true) := fun z hz => by
            rcases drop_mem hy hz with rfl | hz
            · exact decide_eq_true hxy
            · exact hgt.out z hz
          clear fin ho hb hgt hV hlen e
          go_wp2
          go_roundw
          case rel => exact ⟨q, y, by omega, by go_num, hst, hb', hgt'⟩
          case measure => simp [intOf]
        · have HD : Hid _ := fin.out _ rfl (.inr ⟨y, by rw [Nat.add_sub_cancel]; exact hy, decide_eq_false hxy⟩)
          clear fin ho hb hgt hV hlen
          go_wp2
          go_ret
          first | exact ⟨_, _, rfl, HD.out⟩ | exact ⟨_, ⟨_, rfl⟩, HD.out⟩
end

section
open Go.RowKit
def foldN (ds : List InoD) (l : List Int) (o : List Int) : List Int := l.foldl (fun o x => addE ds o (dirEnts ds x)) o
theorem foldN_drop {ds : List InoD} {l o : List Int} {k : Nat} {x : Int} (h : l[k]? = some x) : foldN ds (l.drop k) o = foldN ds (l.drop (k + 1)) (addE ds o (dirEnts ds x)) := by
  have hk := (List.getElem?_eq_some_iff.1 h).1
  unfold foldN
  rw [List.drop_eq_getElem_cons hk, List.foldl_cons, (List.getElem?_eq_some_iff.1 h).2]
theorem addE_drop {ds : List InoD} {es : List (ByteArray × Int)} {o : List Int} {k : Nat} (h : k < es.length) : addE ds o (es.drop k) = addE ds (if (look ds es[k].2).isSome then putI o es[k].2 else o) (es.drop (k + 1)) := by
  unfold addE
  rw [List.drop_eq_getElem_cons h, List.foldl_cons]
/-- Six cells of a box stored anew. -/
theorem blk6 {W : World} {X : Nat} {t : TypeId} {u0 u1 u2 u3 u4 u5 : Value} (h : Blk W X t #[u0, u1, u2, u3, u4, u5]) (v0 v1 v2 v3 v4 v5 : Value) : Blk ((((((W.setCell ⟨X, 0, none⟩ v0).setCell ⟨X, 1, none⟩ v1).setCell ⟨X, 2, none⟩ v2).setCell ⟨X, 3, none⟩ v3).setCell ⟨X, 4, none⟩ v4).setCell ⟨X, 5, none⟩ v5) X t #[v0, v1, v2, v3, v4, v5] :=
  (((((h.set 0 v0).set 1 v1).set 2 v2).set 3 v3).set 4 v4).set 5 v5
theorem gr6s (W : World) (X : Nat) (v0 v1 v2 v3 v4 v5 : Value) : W.grownBy ((((((W.setCell ⟨X, 0, none⟩ v0).setCell ⟨X, 1, none⟩ v1).setCell ⟨X, 2, none⟩ v2).setCell ⟨X, 3, none⟩ v3).setCell ⟨X, 4, none⟩ v4).setCell ⟨X, 5, none⟩ v5) (some X) :=
  gr_more (gr_more (gr_more (gr_more (gr_more (gr_setC W _ 0 _) 1 _) 2 _) 3 _) 4 _) 5 _
theorem InoG.ents_rd {w : World} {B T : Nat} {D : InoD} {v1 v3 : Value} {a2 : Option Addr} {c2 : Nat} (h : InoG w B T D v1 (.slice a2 D.ents.length c2) v3) : RdP w a2 (eP D.ents) := by
  obtain ⟨_, _, _, _, _, _, _, e2, _, r⟩ := h.form
  simp only [Value.slice.injEq, true_and] at e2
  rw [e2.1]
  exact r.ents
/-- An inode that InodeAt answered, in a box of its own. -/
structure NXR (W0 : World) (D : InoD) (ok : Bool) (p q : Value) (wx : World) : Prop where
  ex : ∃ (X : Nat) (b1 : Option Addr) (d1 : Nat) (b2 : Option Addr) (d2 : Nat) (b3 : Option Addr) (d3 : Nat), p = .pointer (some ⟨X, 0, none⟩) ∧ W0.heap.size ≤ X ∧ Blk wx X 46 #[.int .i64 D.ino, .int .i64 D.kind, .int .i64 D.links, .slice b1 D.data.length d1, .slice b2 D.ents.length d2, .slice b3 D.attrs.length d3] ∧ InoRd wx D b1 b2 b3
  ok : q = .bool ok
  below : Below W0.heap.size W0 wx
theorem InoG.rds {w : World} {B T : Nat} {D : InoD} {a1 a2 a3 : Option Addr} {c1 c2 c3 : Nat} (h : InoG w B T D (.slice a1 D.data.length c1) (.slice a2 D.ents.length c2) (.slice a3 D.attrs.length c3)) : InoRd w D a1 a2 a3 := by
  obtain ⟨_, _, _, _, _, _, e1, e2, e3, r⟩ := h.form
  simp only [Value.slice.injEq, true_and] at e1 e2 e3
  rw [e1.1, e2.1, e3.1]
  exact r
theorem nxrA {W0 wr W : World} {D : InoD} {ok : Bool} {b1 b2 b3 : Option Addr} {d1 d2 d3 : Nat} (hB : Below W0.heap.size W0 wr) (hb : Below wr.heap.size wr W) (g : InoG W wr.heap.size W.heap.size D (.slice b1 D.data.length d1) (.slice b2 D.ents.length d2) (.slice b3 D.attrs.length d3)) :
    NXR W0 D ok (.pointer (some ⟨W.heap.size, 0, none⟩)) (.bool ok) (W.alloc (.cells #[.int .i64 D.ino, .int .i64 D.kind, .int .i64 D.links, .slice b1 D.data.length d1, .slice b2 D.ents.length d2, .slice b3 D.attrs.length d3] 46)) := by
  have hB1 : Below W0.heap.size W0 W := hB.trans (hb.mono hB.size)
  exact ⟨⟨W.heap.size, b1, d1, b2, d2, b3, d3, rfl, hB1.size, Blk.new W _ _, g.rds.keep ((Below.refl _ W).alloc (Nat.le_refl _) _)⟩, rfl, hB1.alloc hB1.size _⟩
theorem nxrB {W0 wr W : World} {D : InoD} {ok : Bool} {b1 b2 b3 : Option Addr} {d1 d2 d3 : Nat} {u0 u1 u2 u3 u4 u5 : Value} {X lo : Nat} (hB : Below W0.heap.size W0 wr) (hX : W0.heap.size ≤ X) (hlo : X < lo ∨ W.heap.size ≤ X) (hb : Below wr.heap.size wr W) (z : Blk W X 46 #[u0, u1, u2, u3, u4, u5]) (g : InoG W lo W.heap.size D (.slice b1 D.data.length d1) (.slice b2 D.ents.length d2) (.slice b3 D.attrs.length d3)) :
    NXR W0 D ok (.pointer (some ⟨X, 0, none⟩)) (.bool ok) ((((((W.setCell ⟨X, 0, none⟩ (.int .i64 D.ino)).setCell ⟨X, 1, none⟩ (.int .i64 D.kind)).setCell ⟨X, 2, none⟩ (.int .i64 D.links)).setCell ⟨X, 3, none⟩ (.slice b1 D.data.length d1)).setCell ⟨X, 4, none⟩ (.slice b2 D.ents.length d2)).setCell ⟨X, 5, none⟩ (.slice b3 D.attrs.length d3)) := by
  have hB1 : Below W0.heap.size W0 W := hB.trans (hb.mono hB.size)
  have gg := gr6s W X (.int .i64 D.ino) (.int .i64 D.kind) (.int .i64 D.links) (.slice b1 D.data.length d1) (.slice b2 D.ents.length d2) (.slice b3 D.attrs.length d3)
  exact ⟨⟨X, b1, d1, b2, d2, b3, d3, rfl, hX, blk6 z _ _ _ _ _ _, (g.kept fun b h1 h2 => gg.block b h2 (by simp; omega)).rds⟩, rfl, hB1.grown gg hB1.size (fun m hm => by simp at hm; omega)⟩
set_option maxRecDepth 100000 in
set_option maxHeartbeats 4000000 in
theorem l7NextS (a : Option Addr) (n cap : Nat) (nx : Int) (rs : List InoR) (la : Option Addr) (m lc : Nat) (xs : List Int) (w : World) (ht : TR w a n rs) (hm : xs.length = m) (hl : RdV w la (iV xs)) (hin : InTab (rs.map InoR.D) xs) :
    Calls Tryz.prog 70 #[.agg #[.slice a n cap, .int .i64 nx], .slice la m lc] w fun e w' => ∃ a' c', e = .returned (.slice a' (nextD (rs.map InoR.D) xs).length c') ∧ RdV w' a' (iV (nextD (rs.map InoR.D) xs)) ∧ Below w.heap.size w w' := by
  have B0 : Below w.heap.size w (w.alloc (.cells #[.slice a n cap, .int .i64 nx] 30)) := (Below.refl _ w).alloc (Nat.le_refl _) _
  have z0 := Blk.new w 30 #[.slice a n cap, .int .i64 nx]
  obtain ⟨ds, hds⟩ : ∃ ds, rs.map InoR.D = ds := ⟨_, rfl⟩
  rw [hds] at hin ⊢
  have HDS : Hid _ := hds
  have hm' : Hid (xs.length = m) := hm
  obtain ⟨R, hR⟩ : ∃ R, nextD ds xs = R := ⟨_, rfl⟩
  rw [hR]
  have HR : Hid (foldN ds (xs.drop 0) xs = R) := hR
  have hmn : m ≤ 1048576 := by
    have h1 := hin.len
    have h2 : ds.length = n := by rw [← hds, List.length_map, ht.len]
    have := ht.n
    omega
  have HT0 := ht.keep B0
  have HL0 := hl.keep B0
  have HI : Hid _ := hin
  clear ht hl hds hm hR hin
  go_enter Tryz.func70, Tryz.ntmps70
  go_wp2
  obtain ⟨W0, hW0⟩ : ∃ W, w.alloc (.cells #[.slice a n cap, .int .i64 nx] 30) = W := ⟨_, rfl⟩
  rw [hW0] at B0 z0 HT0 HL0 ⊢
  clear hW0
  have HT : Hid _ := HT0
  have HL : Hid _ := HL0
  have HZ : Hid _ := z0
  have HB0 : Hid _ := B0
  have hws : w.heap.size ≤ W0.heap.size := B0.size
  clear HT0 HL0 z0 B0
  go_loopw [5, 6] (fun o i wr => ∃ (k : Nat) (ov : List Int) (oa : Option Addr) (on oc : Nat), k ≤ m ∧ i = .int .i64 k ∧ o = .slice oa on oc ∧ ov.length = on ∧ RdV wr oa (iV ov) ∧ Hid (InTab ds ov) ∧ Hid (foldN ds (xs.drop k) ov = R) ∧ Below W0.heap.size W0 wr) (fun _ i _ => m - (intOf i).toNat)
  case atStart => exact ⟨0, xs, la, m, lc, Nat.zero_le _, rfl, rfl, hm'.out, HL.out, HI, HR, Below.refl _ _⟩
  case round =>
    obtain ⟨k, ov, oa, on, oc, hk, rfl, rfl, hon, hro, hio, hfo, hB⟩ := hrel
    clear HR
    by_cases hkm : k < m
    · have hki : (k : Int) < (m : Int) := by omega
      have hkl : k < xs.length := by rw [hm'.out]; exact hkm
      obtain ⟨x, hx⟩ : ∃ x, xs[k]? = some x := ⟨_, List.getElem?_eq_getElem hkl⟩
      have hfo' := hfo.out
      rw [foldN_drop hx] at hfo'
      obtain ⟨lb, loff, rfl, hllt, hlc⟩ := RdV.lt HL.out (by intro h; have := congrArg List.length h; rw [iV_len] at this; simp at this; rw [this] at hkl; simp at hkl)
      have hln := (hB.cell (p := ⟨lb, loff + k, none⟩) hllt).trans (hlc k _ (iV_at hx))
      have zb := Blk.keep HZ.out hB
      have zt0 := zb.cell 0
      have zt1 := zb.cell 1
      simp at zt0 zt1
      have hTr := HT.out.keep hB
      have hcA := fun (W : World) (hW : Below wr.heap.size wr W) => inodeAtS a n cap nx x rs W hTr.len (by have := hTr.n; omega) hTr.small (hTr.keep hW).rd
      have hA1 := hcA wr.drew (Below.refl _ _).drew
      have hA2 := hcA (wr.alloc (.cells #[.int .i64 0, .int .i64 0, .int .i64 0, .slice none 0 0, .slice none 0 0, .slice none 0 0] 46)).drew ((Below.refl _ _).alloc (Nat.le_refl _) _).drew
      have hlnA := ((Below.refl _ wr).alloc (Nat.le_refl _) (.cells #[.int .i64 0, .int .i64 0, .int .i64 0, .slice none 0 0, .slice none 0 0, .slice none 0 0] 46)).cell (p := ⟨lb, loff + k, none⟩) (Nat.lt_of_lt_of_le hllt hB.size) |>.trans hln
      have zbA := zb.alloc (.cells #[.int .i64 0, .int .i64 0, .int .i64 0, .slice none 0 0, .slice none 0 0, .slice none 0 0] 46)
      have ztA0 := zbA.cell 0
      have ztA1 := zbA.cell 1
      simp at ztA0 ztA1
      clear hlc hfo hcA
      go_upto_region 5 with fail
      go_cut [7, 8] (fun p q wx => NXR wr (atD rs x) (atB rs x) p q wx)
      case first =>
        go_region_law (first
          | (go_simp; go_at_call 45; (with_reducible refine hA1.mono ?_); rintro e w10 ⟨b1, d1, b2, d2, b3, d3, rfl, gA, bA⟩; have zN := Blk.new w10 46 #[.int .i64 0, .int .i64 0, .int .i64 0, .slice none 0 0, .slice none 0 0, .slice none 0 0]; obtain ⟨t0, t1, t2, t3, t4, t5⟩ := zN.six; have f0 := zN.frozen 0; have f1 := zN.frozen 1; have f2 := zN.frozen 2; have f3 := zN.frozen 3; have f4 := zN.frozen 4; have f5 := zN.frozen 5; dsimp only)
          | (go_simp; go_at_call 45; (with_reducible refine hA2.mono ?_); rintro e w10 ⟨b1, d1, b2, d2, b3, d3, rfl, gB, bB⟩; have zN := Blk.keep (Blk.drew (Blk.new wr 46 #[.int .i64 0, .int .i64 0, .int .i64 0, .slice none 0 0, .slice none 0 0, .slice none 0 0])) bB; obtain ⟨t0, t1, t2, t3, t4, t5⟩ := zN.six; have f0 := zN.frozen 0; have f1 := zN.frozen 1; have f2 := zN.frozen 2; have f3 := zN.frozen 3; have f4 := zN.frozen 4; have f5 := zN.frozen 5; dsimp only))
        all_goals (go_wp2_with fail; go_meet)
        all_goals first
          | (have q := gA; exact nxrA (Below.refl _ _) ((Below.refl _ wr).drew.trans bA) gA)
          | (have q := gB; exact nxrB (Below.refl _ _) (Nat.le_refl _) (.inl (by show _ < (wr.alloc _).heap.size; simp)) (((Below.refl _ wr).alloc (Nat.le_refl _) _).drew.trans (bB.mono (by show _ ≤ (wr.alloc _).heap.size; simp))) zN gB)
          | fail
      case rest =>
        obtain ⟨⟨X, b1, d1, b2, d2, b3, d3, rfl, hX, zX, rX⟩, rfl, bX⟩ := hcut
        obtain ⟨Wc, hwc⟩ : ∃ W, W = wc := ⟨_, rfl⟩
        subst hwc
        have hBc : Below W0.heap.size W0 Wc := hB.trans (bX.mono hB.size)
        have hro' := hro.keep bX
        have hde : dirEnts ds x = if atB rs x = true ∧ (atD rs x).kind = 2 then (atD rs x).ents else [] := by
          rw [atB_look, atD_look, HDS.out]
          unfold dirEnts
          cases look ds x with
          | none => simp
          | some D => simp
        rw [hde] at hfo'
        have hsm : (atD rs x).ents.length ≤ 1048576 := by
          rw [atD_look]
          cases hlo : look (rs.map InoR.D) x with
          | none => simp [inoZ]
          | some D =>
            obtain ⟨p, r, _, hrp, rfl, _⟩ := lookD_some hlo
            exact (HT.out.small r (List.mem_of_getElem? hrp)).ents
        generalize atB rs x = ok at hfo' ⊢
        obtain ⟨es, hes⟩ : ∃ es, (atD rs x).ents = es := ⟨_, rfl⟩
        have hre : RdP Wc b2 (eP es) := by rw [← hes]; exact rX.ents
        rw [hes] at zX hfo' hsm
        obtain ⟨n2, hn2⟩ : ∃ n2, es.length = n2 := ⟨_, rfl⟩
        rw [hn2] at zX hsm
        have HN : Hid _ := hn2
        generalize (atD rs x).data.length = n1 at zX
        generalize (atD rs x).attrs.length = n3 at zX
        generalize (atD rs x).ino = i1 at zX
        generalize (atD rs x).kind = i2 at zX hfo'
        generalize (atD rs x).links = i3 at zX
        have HRE : Hid _ := hre
        have HZX : Hid _ := zX
        have y1 := zX.cell 1
        have y4 := zX.cell 4
        simp at y1 y4
        clear hde hes rX hre hn2 zt0 zt1 ztA0 ztA1 zb zbA hln hlnA hA1 hA2 hTr hx bX hro
        by_cases hgo : ok = true ∧ i2 = 2
        · obtain ⟨rfl, rfl⟩ := hgo
          rw [if_pos ⟨rfl, rfl⟩] at hfo'
          obtain ⟨E, hE⟩ : ∃ E, addE ds ov es = E := ⟨_, rfl⟩
          rw [hE] at hfo'
          have HF : Hid (foldN ds (xs.drop (k + 1)) E = R) := hfo'
          have HE : Hid (addE ds ov (es.drop 0) = E) := hE
          clear hfo' hE
          go_wp2
          clear y1 y4
          go_loopw [5, 9] (fun o j wi => ∃ (q : Nat) (pv : List Int) (pa : Option Addr) (pn pc : Nat), q ≤ n2 ∧ j = .int .i64 q ∧ o = .slice pa pn pc ∧ pv.length = pn ∧ RdV wi pa (iV pv) ∧ Hid (InTab ds pv) ∧ Hid (addE ds pv (es.drop q) = E) ∧ Below Wc.heap.size Wc wi) (fun _ j _ => n2 - (intOf j).toNat)
          case atStart => exact ⟨0, ov, oa, on, oc, Nat.zero_le _, rfl, rfl, hon, hro', hio, HE, Below.refl _ _⟩
          case round =>
            obtain ⟨q, pw, pa, pn, pc, hq, rfl, rfl, hpn, hrp, hip, hap, hBi⟩ := hrel
            clear HE hro' hio
            have zXi := Blk.keep HZX.out hBi
            have y1 := zXi.cell 1
            have y4 := zXi.cell 4
            simp at y1 y4
            have hBw : Below W0.heap.size W0 wr := hBc.trans (hBi.mono hBc.size)
            by_cases hqn : q < n2
            · have hqi : (q : Int) < (n2 : Int) := by omega
              have hql : q < es.length := by rw [HN.out]; exact hqn
              have hap' := hap.out
              rw [addE_drop hql] at hap'
              obtain ⟨eb, eo, rfl, helt, hec⟩ := RdP.lt HRE.out (by intro h; have := congrArg List.length h; rw [eP_length] at this; simp at this; rw [this] at hql; simp at hql)
              have hx := hec q (by rw [eP_length]; exact hql)
              rw [eP_at es q hql] at hx
              obtain ⟨u, hu⟩ : ∃ u, es[q].2 = u := ⟨_, rfl⟩
              rw [hu] at hx hap'
              have x2 : wr.cell? ⟨eb, eo + q * 2 + 1, none⟩ = some (.int .i64 u) := (hBi.cell (p := ⟨eb, eo + q * 2 + 1, none⟩) helt).trans hx.2
              have zb := Blk.keep HZ.out hBw
              have zt0 := zb.cell 0
              have zt1 := zb.cell 1
              simp at zt0 zt1
              have hTr := HT.out.keep hBw
              have hcL := l4At_any a n cap nx u rs wr.drew hTr.len (by have := hTr.n; omega) (hTr.rd.keep (Below.refl _ _).drew)
              have HK : Hid (∀ W : World, Below wr.heap.size wr W → W.cell? ⟨w.heap.size, 0, none⟩ = some (.slice a n cap) ∧ W.cell? ⟨w.heap.size, 1, none⟩ = some (.int .i64 nx) ∧ W.cell? ⟨X, 4, none⟩ = some (.slice (some ⟨eb, eo, none⟩) n2 d2) ∧ W.cell? ⟨X, 1, none⟩ = some (.int .i64 2) ∧ W.cell? ⟨eb, eo + q * 2 + 1, none⟩ = some (.int .i64 u)) := fun W hW => ⟨(zb.keep hW).cell 0, (zb.keep hW).cell 1, (zXi.keep hW).cell 4, (zXi.keep hW).cell 1, (hW.cell (p := ⟨eb, eo + q * 2 + 1, none⟩) (Nat.lt_of_lt_of_le helt hBi.size)).trans x2⟩
              have hlo : atN rs u = if (look ds u).isSome then atN rs u else -1 := by
                cases hl : look ds u with
                | none => rw [atN_none (by rw [HDS.out]; exact hl)]; rfl
                | some D => rfl
              cases hl : (look ds u).isSome with
              | false =>
                rw [hl] at hap' hlo
                simp only [Bool.false_eq_true, if_false] at hap' hlo
                rw [hlo] at hcL
                have hnx : Hid _ := hap'
                clear hap' hlo hec hx hTr hap hu
                go_wp2
                go_region_held3 (fun W : World => W.cell? ⟨w.heap.size, 0, none⟩ = some (.slice a n cap) ∧ W.cell? ⟨w.heap.size, 1, none⟩ = some (.int .i64 nx) ∧ W.cell? ⟨X, 4, none⟩ = some (.slice (some ⟨eb, eo, none⟩) n2 d2) ∧ W.cell? ⟨X, 1, none⟩ = some (.int .i64 2) ∧ W.cell? ⟨eb, eo + q * 2 + 1, none⟩ = some (.int .i64 u)) (go_keep) ((go_at_call 44; (with_reducible refine hcL.mono ?_); rintro e w2 ⟨rfl, hb2⟩; obtain ⟨p0, p1, p2, p3, p4⟩ := HK.out w2 ((Below.refl _ _).drew.trans hb2)))
                all_goals (have hB2 : Below wr.heap.size wr w2 := (Below.refl _ wr).drew.trans hb2; clear zt0 zt1 y1 y4 x2 hcL)
                all_goals go_wp2
                all_goals go_roundw
                all_goals first
                  | (case rel => exact ⟨q + 1, pw, pa, pn, pc, by omega, by go_num, rfl, hpn, hrp.keep hB2, hip, hnx, hBi.trans (hB2.mono hBi.size)⟩)
                  | (case measure => simp [intOf]; omega)
              | true =>
                rw [hl] at hap'
                simp only [if_true] at hap'
                obtain ⟨D, hD⟩ := Option.isSome_iff_exists.1 hl
                obtain ⟨pp, _, hf, _, _, hpl⟩ := lookD_some (rs := rs) (by rw [HDS.out]; exact hD)
                have hN : atN rs u = (pp : Int) := by unfold atN; rw [hf]
                rw [hN] at hcL
                have hge : (0 : Int) ≤ (pp : Int) := by omega
                have hpn' : pn ≤ 4000000 := by
                  have h1 := hip.out.len
                  have h2 : ds.length = n := by rw [← HDS.out, List.length_map, hTr.len]
                  have := hTr.n
                  omega
                have hip' : Hid (InTab ds (putI pw u)) := InTab.put hip.out hl
                have hcP := fun (W : World) (hW : Below wr.heap.size wr W) => l7PutS pa pn pc u pw W hpn hpn' (hrp.keep hW)
                have HP : Hid _ := hcP
                have hnx : Hid _ := hap'
                clear hap' hlo hec hx hTr hap hu hD hf hN hcP
                go_wp2
                go_region_held3 (fun W : World => W.cell? ⟨w.heap.size, 0, none⟩ = some (.slice a n cap) ∧ W.cell? ⟨w.heap.size, 1, none⟩ = some (.int .i64 nx) ∧ W.cell? ⟨X, 4, none⟩ = some (.slice (some ⟨eb, eo, none⟩) n2 d2) ∧ W.cell? ⟨X, 1, none⟩ = some (.int .i64 2) ∧ W.cell? ⟨eb, eo + q * 2 + 1, none⟩ = some (.int .i64 u)) (go_keep) ((go_at_call 44; (with_reducible refine hcL.mono ?_); rintro e w2 ⟨rfl, hb2⟩; obtain ⟨p0, p1, p2, p3, p4⟩ := HK.out w2 ((Below.refl _ _).drew.trans hb2)))
                all_goals (have hB2 : Below wr.heap.size wr w2 := (Below.refl _ wr).drew.trans hb2; have hc3 := HP.out w2 hB2; clear zt0 zt1 y1 y4 x2 hcL)
                all_goals go_wp2_with fail
                all_goals (with_reducible refine hc3.mono ?_)
                all_goals (rintro e w3 ⟨pa', pc', rfl, hr3, b3⟩; clear hc3 p0 p1 p2 p3 p4)
                all_goals go_wp2
                all_goals go_roundw
                all_goals first
                  | (case rel => exact ⟨q + 1, putI pw u, pa', _, pc', by omega, by go_num, rfl, rfl, hr3, hip', hnx, (hBi.trans (hB2.mono hBi.size)).trans (b3.mono (hBi.trans (hB2.mono hBi.size)).size)⟩)
                  | (case measure => simp [intOf]; omega)
            · have hqi : ¬ (q : Int) < (n2 : Int) := by omega
              have hfin : Hid (foldN ds (xs.drop (k + 1)) pw = R) := by
                have h1 := hap.out
                rw [List.drop_of_length_le (by rw [HN.out]; omega)] at h1
                have h2 : pw = E := h1
                show _ = _
                rw [h2]
                exact HF.out
              go_wp2
              go_roundw
              case rel => exact ⟨k + 1, pw, pa, pn, pc, by omega, by go_num, rfl, hpn, hrp, hip, hfin, hBw⟩
              case measure => simp [intOf]; omega
        · rw [if_neg hgo] at hfo'
          have HF : Hid (foldN ds (xs.drop (k + 1)) ov = R) := hfo'
          clear hfo'
          go_wp2
          refine wp_loop_rounds 1 ?_; rw [rounds_succ]
          by_cases h0 : (0 : Int) < (n2 : Int)
          · cases ok with
            | false =>
              go_wp2
              go_roundw
              case rel => exact ⟨k + 1, ov, oa, on, oc, by omega, by go_num, rfl, hon, hro', hio, HF, hBc⟩
              case measure => simp [intOf]; omega
            | true =>
              have hkb : (i2 == 2) = false := by simpa using hgo
              go_wp2
              go_roundw
              case rel => exact ⟨k + 1, ov, oa, on, oc, by omega, by go_num, rfl, hon, hro', hio, HF, hBc⟩
              case measure => simp [intOf]; omega
          · go_wp2
            go_roundw
            case rel => exact ⟨k + 1, ov, oa, on, oc, by omega, by go_num, rfl, hon, hro', hio, HF, hBc⟩
            case measure => simp [intOf]; omega
    · have hki : ¬ (k : Int) < (m : Int) := by omega
      have hend : ov = R := by
        have h1 := hfo.out
        rw [List.drop_of_length_le (by rw [hm'.out]; omega)] at h1
        exact h1
      subst hend
      subst hon
      have HD : Hid (RdV wr oa (iV ov) ∧ Below w.heap.size w wr) := ⟨hro, HB0.out.trans (hB.mono hws)⟩
      clear hro hB hio hfo
      go_wp2
      go_ret
      first | exact ⟨_, _, rfl, HD.out⟩ | exact ⟨_, ⟨_, rfl⟩, HD.out⟩
end

section
open Go.RowKit
/-- All blocks but two are as they were. -/
structure Fr2 (w w' : World) (X g : Nat) : Prop where
  os : w'.os = w.os
  tape : w'.tape = w.tape
  output : w'.output = w.output
  size : w.heap.size ≤ w'.heap.size
  block : ∀ k, k < w.heap.size → k ≠ X → k ≠ g → w'.heap[k]? = w.heap[k]?
theorem Fr2.refl (w : World) (X g : Nat) : Fr2 w w X g := ⟨rfl, rfl, rfl, Nat.le_refl _, fun _ _ _ _ => rfl⟩
theorem Fr2.below {w w' : World} (h : Below w.heap.size w w') (X g : Nat) : Fr2 w w' X g := ⟨h.os, h.tape, h.output, h.size, fun k hk _ _ => h.block k hk⟩
theorem Fr2.gr {w w' : World} {g : Nat} (h : w.grownBy w' (some g)) (X : Nat) : Fr2 w w' X g := ⟨h.os, h.tape, h.output, h.size, fun k hk _ hg => h.block k hk (by simpa using hg)⟩
theorem Fr2.cell (w : World) (X i : Nat) (v : Value) (g : Nat) : Fr2 w (w.setCell ⟨X, i, none⟩ v) X g := ⟨rfl, rfl, rfl, by simp [World.setCell], fun k _ hX _ => heap_setCell_other w ⟨X, i, none⟩ k v hX⟩
theorem Fr2.trans {w w1 w2 : World} {X g g1 : Nat} (h : Fr2 w w1 X g) (hg : g1 = g ∨ w.heap.size ≤ g1) (k : Fr2 w1 w2 X g1) : Fr2 w w2 X g :=
  ⟨k.os.trans h.os, k.tape.trans h.tape, k.output.trans h.output, Nat.le_trans h.size k.size, fun i hi hX hG => (k.block i (Nat.lt_of_lt_of_le hi h.size) hX (by omega)).trans (h.block i hi hX hG)⟩
theorem Blk.fr {w w' : World} {b X g : Nat} {t : TypeId} {vs : Array Value} (h : Blk w b t vs) (k : Fr2 w w' X g) (hX : b ≠ X) (hg : b ≠ g) : Blk w' b t vs := (k.block b h.lt hX hg).trans h
theorem Below.fr {B : Nat} {w0 w w' : World} {X g : Nat} (h : Below B w0 w) (k : Fr2 w w' X g) (hB : B ≤ w.heap.size) (hX : B ≤ X) (hg : B ≤ g) : Below B w0 w' :=
  ⟨k.os.trans h.os, k.tape.trans h.tape, k.output.trans h.output, Nat.le_trans h.size k.size, fun i hi => (k.block i (by omega) (by omega) (by omega)).trans (h.block i hi)⟩
theorem InoG.fr {w w' : World} {lo hi X g : Nat} {D : InoD} {v1 v2 v3 : Value} (h : InoG w lo hi D v1 v2 v3) (k : Fr2 w w' X g) (hh : hi ≤ w.heap.size) (hX : X < lo) (hg : g < lo) : InoG w' lo hi D v1 v2 v3 :=
  h.kept fun b h1 h2 => k.block b (by omega) (by omega) (by omega)
theorem cell_block {W W' : World} {b i : Nat} (h : W'.heap[b]? = W.heap[b]?) : W'.cell? ⟨b, i, none⟩ = W.cell? ⟨b, i, none⟩ := by
  unfold World.cell?
  rw [h]
/-- A variable X holds a list of texts, in a row of the call's own. -/
structure PX (B : Nat) (w : World) (X g c : Nat) (L : List ByteArray) : Prop where
  cell : Blk w X 26 #[.slice (some ⟨g, 0, none⟩) L.length c]
  row : w.ownsRow B 9 1 (.slice (some ⟨g, 0, none⟩) L.length c) L.length (L.map Value.string)
theorem PX.ne {B : Nat} {w : World} {X g c : Nat} {L : List ByteArray} (h : PX B w X g c L) : g ≠ X := by
  rintro rfl
  obtain ⟨_, cur, h1⟩ := row_at h.row (g := g) rfl
  have h2 : w.heap[g]? = _ := h.cell
  rw [h1] at h2
  simp at h2
theorem PX.lt {B : Nat} {w : World} {X g c : Nat} {L : List ByteArray} (h : PX B w X g c L) : B ≤ g ∧ g < w.heap.size ∧ X < w.heap.size := ⟨(World.ownsRow.lt h.row g rfl).1, (World.ownsRow.lt h.row g rfl).2, h.cell.lt⟩
theorem PX.keep {B : Nat} {w w' : World} {X g c : Nat} {L : List ByteArray} (h : PX B w X g c L) (hb : Below w.heap.size w w') : PX B w' X g c L := ⟨h.cell.keep hb, row_keep6 h.row hb⟩
/-- One text more. -/
theorem PX.app {B : Nat} {w w' : World} {X g c g' c' : Nat} {L : List ByteArray} {z : ByteArray} (h : PX B w X g c L) (ho : w'.ownsRow B 9 1 (.slice (some ⟨g', 0, none⟩) (L.length + 1) c') (L.length + 1) (L.map Value.string ++ [.string z])) (hg : w.grownBy w' (some g)) (hat : g' = g ∨ g' = w.heap.size) :
    PX B (w'.setCell ⟨X, 0, none⟩ (.slice (some ⟨g', 0, none⟩) (L.length + 1) c')) X g' c' (L ++ [z]) ∧ Fr2 w (w'.setCell ⟨X, 0, none⟩ (.slice (some ⟨g', 0, none⟩) (L.length + 1) c')) X g := by
  have hne := h.ne
  have hl := h.lt
  have hX : g' ≠ X := by omega
  have e : (L ++ [z]).length = L.length + 1 := by simp
  refine ⟨⟨?_, ?_⟩, ?_⟩
  · rw [e]
    exact (h.cell.kept hg (by omega)).set 0 _
  · rw [e]
    have : (L ++ [z]).map Value.string = L.map Value.string ++ [.string z] := by simp
    rw [this]
    exact row_kept ho (gr_setC w' X 0 _) (fun m hm e => by simp [Value.ownBlock] at hm; simp at e; omega)
  · exact (Fr2.gr hg X).trans (.inl rfl) (Fr2.cell w' X 0 _ g)
theorem flat_take {α β : Type} {l : List α} {q : Nat} {x : α} (h : α → List β) (hq : l[q]? = some x) : (l.take (q + 1)).flatMap h = (l.take q).flatMap h ++ h x := by
  rw [List.take_add_one, hq]
  simp
theorem flat_le {α β : Type} {l : List α} {q : Nat} {x : α} (h : α → List β) (hq : l[q]? = some x) : ((l.take q).flatMap h).length + (h x).length ≤ (l.flatMap h).length := by
  have e : l = l.take (q + 1) ++ l.drop (q + 1) := (List.take_append_drop _ _).symm
  conv => rhs; rw [e]
  rw [List.flatMap_append, flat_take h hq]
  simp
def hP (ds : List InoD) (f : Nat) (p : ByteArray) (e : ByteArray × Int) : List ByteArray := sub p e :: pathsF ds f e.2 (sub p e)
theorem pathsF_flat (ds : List InoD) (f : Nat) (x : Int) (p : ByteArray) : pathsF ds (f + 1) x p = (entsAt ds x).flatMap (hP ds f p) := rfl
set_option maxRecDepth 100000 in
set_option maxHeartbeats 4000000 in
theorem l7PathsS (a : Option Addr) (n cap : Nat) (nx : Int) (rs : List InoR) (wb : World) (ht : TR wb a n rs) (f : Nat) : ∀ (x : Int) (p : ByteArray) (w : World) (X g c : Nat) (L : List ByteArray), levL (rs.map InoR.D) f [x] = [] → p.size + f * 1048577 ≤ 100000000 → PX wb.heap.size w X g c L → wb.heap.size ≤ X → Below wb.heap.size wb w → L.length + (pathsF (rs.map InoR.D) f x p).length ≤ 1000000 →
    Calls Tryz.prog 22 #[.agg #[.slice a n cap, .int .i64 nx], .int .i64 x, .string p, .pointer (some ⟨X, 0, none⟩)] w fun e w' => ∃ g' c', e = .returned (.tuple #[]) ∧ PX wb.heap.size w' X g' c' (L ++ pathsF (rs.map InoR.D) f x p) ∧ Fr2 w w' X g ∧ (g' = g ∨ w.heap.size ≤ g') := by
  induction f with
  | zero => intro x p w X g c L h; simp [levL] at h
  | succ f ih =>
    intro x p w X g c L hlev hps hpx hX hbw hlen
    have B0 : Below w.heap.size w (w.alloc (.cells #[.slice a n cap, .int .i64 nx] 30)) := (Below.refl _ w).alloc (Nat.le_refl _) _
    have z0 := Blk.new w 30 #[.slice a n cap, .int .i64 nx]
    obtain ⟨ds, hds⟩ : ∃ ds, rs.map InoR.D = ds := ⟨_, rfl⟩
    rw [hds] at hlev hlen ih ⊢
    have hev := lev_ent hlev
    rw [pathsF_flat] at hlen ⊢
    have hes : (atD rs x).ents = entsAt ds x := by rw [atD_look, hds]; rfl
    rw [← hes] at hev hlen ⊢
    have hTw := ht.keep hbw
    have hT0 := hTw.keep B0
    have hcA := inodeAtS a n cap nx x rs (w.alloc (.cells #[.slice a n cap, .int .i64 nx] 30)) hT0.len (by have := hT0.n; omega) hT0.small hT0.rd
    have hsm : (atD rs x).ents.length ≤ 1048576 ∧ ∀ q ∈ (atD rs x).ents, q.1.size ≤ 1048576 := by
      rw [atD_look]
      cases hlo : look (rs.map InoR.D) x with
      | none => simp [inoZ]
      | some D =>
        obtain ⟨p, r, _, hrp, rfl, _⟩ := lookD_some hlo
        exact ⟨(ht.small r (List.mem_of_getElem? hrp)).ents, (ht.small r (List.mem_of_getElem? hrp)).entsz⟩
    obtain ⟨RL, hRL⟩ : ∃ R, (atD rs x).ents.flatMap (hP ds f p) = R := ⟨_, rfl⟩
    rw [hRL]
    have HRL : Hid _ := hRL
    clear hRL
    have HIH : Hid _ := ih
    have HEV : Hid _ := hev
    have HTB : Hid _ := ht
    have HBW : Hid _ := hbw
    have HLN : Hid _ := hlen
    have HSM : Hid _ := hsm
    have hpl := hpx.lt
    clear ih hev ht hlev hes hTw hT0 hbw hds hlen hsm
    go_enter Tryz.func22, Tryz.ntmps22
    go_wp2_with fail
    obtain ⟨W0, hW0⟩ : ∃ W, w.alloc (.cells #[.slice a n cap, .int .i64 nx] 30) = W := ⟨_, rfl⟩
    rw [hW0] at B0 z0 hcA ⊢
    have hs0 : W0.heap.size = w.heap.size + 1 := by rw [← hW0]; simp
    clear hW0
    (with_reducible refine hcA.mono ?_)
    rintro e w1 ⟨b1, d1, b2, d2, b3, d3, rfl, gA, bA⟩
    clear hcA
    have hs1 := bA.size
    obtain ⟨n2, hn2⟩ : ∃ n2, (atD rs x).ents.length = n2 := ⟨_, rfl⟩
    have zX := Blk.new w1 46 #[.int .i64 (atD rs x).ino, .int .i64 (atD rs x).kind, .int .i64 (atD rs x).links, .slice b1 (atD rs x).data.length d1, .slice b2 n2 d2, .slice b3 (atD rs x).attrs.length d3]
    have bN : Below w1.heap.size w1 (w1.alloc (.cells #[.int .i64 (atD rs x).ino, .int .i64 (atD rs x).kind, .int .i64 (atD rs x).links, .slice b1 (atD rs x).data.length d1, .slice b2 n2 d2, .slice b3 (atD rs x).attrs.length d3] 46)) := (Below.refl _ w1).alloc (Nat.le_refl _) _
    have gN := gA.keep (Nat.le_refl _) bN
    have zT := (z0.keep bA).keep bN
    have hsN : (w1.alloc (.cells #[.int .i64 (atD rs x).ino, .int .i64 (atD rs x).kind, .int .i64 (atD rs x).links, .slice b1 (atD rs x).data.length d1, .slice b2 n2 d2, .slice b3 (atD rs x).attrs.length d3] 46)).heap.size = w1.heap.size + 1 := by simp
    have bWN : Below w.heap.size w (w1.alloc (.cells #[.int .i64 (atD rs x).ino, .int .i64 (atD rs x).kind, .int .i64 (atD rs x).links, .slice b1 (atD rs x).data.length d1, .slice b2 n2 d2, .slice b3 (atD rs x).attrs.length d3] 46)) := (B0.trans (bA.mono B0.size)).trans (bN.mono (by omega))
    rw [hn2]
    go_wp2_with fail
    obtain ⟨W1, hW1⟩ : ∃ W, w1.alloc (.cells #[.int .i64 (atD rs x).ino, .int .i64 (atD rs x).kind, .int .i64 (atD rs x).links, .slice b1 (atD rs x).data.length d1, .slice b2 n2 d2, .slice b3 (atD rs x).attrs.length d3] 46) = W := ⟨_, rfl⟩
    rw [hW1] at zX bN gN zT hsN bWN ⊢
    clear hW1 B0 z0 bA gA bN
    obtain ⟨es, hes⟩ : ∃ es, (atD rs x).ents = es := ⟨_, rfl⟩
    have hgE : ∀ W : World, InoG W W0.heap.size w1.heap.size (atD rs x) (.slice b1 (atD rs x).data.length d1) (.slice b2 (atD rs x).ents.length d2) (.slice b3 (atD rs x).attrs.length d3) → RdP W b2 (eP es) := fun W h => by
      have := h.ents_rd
      rw [hes] at this
      exact this
    have HGE : Hid _ := hgE
    have HGN : Hid _ := gN
    rw [hes] at hn2 HEV HLN HSM HRL
    have HN : Hid _ := hn2
    have hn2b : n2 ≤ 1048576 := by rw [← hn2]; exact HSM.out.1
    obtain ⟨i0, hi, hz0, hz1, hz2⟩ := info_parts Tryz.info9
    generalize (atD rs x).data.length = n1 at zX
    generalize (atD rs x).attrs.length = n3 at zX
    generalize (atD rs x).ino = i1 at zX
    generalize (atD rs x).kind = i2 at zX
    generalize (atD rs x).links = i3 at zX
    have px1 : PX wb.heap.size W1 X g c (L ++ (es.take 0).flatMap (hP ds f p)) := by
      have := hpx.keep bWN
      simpa using this
    have HZX : Hid _ := zX
    have HZT : Hid _ := zT
    have hbW1 : Hid (Below wb.heap.size wb W1) := HBW.out.trans (bWN.mono (by have := HBW.out.size; omega))
    have hne := hpx.ne
    clear zX zT hn2 hes hgE gN hpx
    go_loopw [10] (fun i wi => ∃ (q gq cq : Nat), q ≤ n2 ∧ i = .int .i64 q ∧ PX wb.heap.size wi X gq cq (L ++ (es.take q).flatMap (hP ds f p)) ∧ Fr2 W1 wi X g ∧ (gq = g ∨ W1.heap.size ≤ gq)) (fun i _ => n2 - (intOf i).toNat)
    case atStart => exact ⟨0, g, c, Nat.zero_le _, rfl, px1, Fr2.refl _ _ _, .inl rfl⟩
    case round =>
      obtain ⟨q, gq, cq, hq, rfl, pxq, frq, hgq⟩ := hrel
      clear px1
      have zXq := Blk.fr HZX.out frq (by omega) (by omega)
      have zTq := Blk.fr HZT.out frq (by omega) (by omega)
      have y4 := zXq.cell 4
      simp at y4
      by_cases hqn : q < n2
      · have hqi : (q : Int) < (n2 : Int) := by omega
        have hql : q < es.length := by rw [HN.out]; exact hqn
        have hqe : es[q]? = some es[q] := List.getElem?_eq_getElem hql
        have hre := HGE.out wr (InoG.fr HGN.out frq (by omega) (by omega) (by omega))
        obtain ⟨eb, eo, rfl, helt, hec⟩ := hre.lt (by intro h; have := congrArg List.length h; rw [eP_length] at this; simp at this; rw [this] at hql; simp at hql)
        have hx := hec q (by rw [eP_length]; exact hql)
        rw [eP_at es q hql] at hx
        have hev := HEV.out es[q] (List.getElem_mem hql)
        have hszq := HSM.out.2 es[q] (List.getElem_mem hql)
        have hft := flat_take (hP ds f p) hqe
        have hfl := flat_le (hP ds f p) hqe
        obtain ⟨nm, u, hnu⟩ : ∃ nm u, es[q] = (nm, u) := ⟨_, _, rfl⟩
        rw [hnu] at hx hev hszq hft hfl
        obtain ⟨x1, x2⟩ := hx
        dsimp only at x1 x2 hev hszq
        obtain ⟨z, hz⟩ : ∃ z, sub p (nm, u) = z := ⟨_, rfl⟩
        have hzs : z.size = p.size + 1 + nm.size := by rw [← hz]; unfold sub; simp [ByteArray.size_append]; rfl
        have hhP : hP ds f p (nm, u) = z :: pathsF ds f u z := by unfold hP; rw [hz]
        rw [hhP] at hft hfl
        have hz' : p ++ (⟨#[47]⟩ : ByteArray) ++ nm = z := hz
        obtain ⟨Lq, hLq⟩ : ∃ Lq, L ++ (es.take q).flatMap (hP ds f p) = Lq := ⟨_, rfl⟩
        have hLl : Lq.length + (1 + (pathsF ds f u z).length) ≤ 1000000 := by
          have h1 := HLN.out
          rw [← hLq, List.length_append]
          simp only [List.length_cons] at hfl
          omega
        have hLn : Hid (L ++ (es.take (q + 1)).flatMap (hP ds f p) = (Lq ++ [z]) ++ pathsF ds f u z) := by
          show _ = _
          rw [hft, ← hLq]
          simp
        rw [hLq] at pxq
        have hX0 := pxq.cell.cell 0
        have hXf := pxq.cell.frozen 0
        simp at hX0
        have hpq := pxq.lt
        have hl1 : ¬ 9223372036854775807 < p.size + 1 := by omega
        have hl2 : ¬ 9223372036854775807 < p.size + 1 + nm.size := by omega
        have HLL : Hid _ := hLl
        have HLQ : Hid _ := hLq
        have HLE : Hid _ := hev
        have HHZ : Hid _ := hzs
        have hlq2 : Lq.length ≤ 8000000 := by omega
        obtain ⟨lq, hlq⟩ : ∃ lq, Lq.length = lq := ⟨_, rfl⟩
        have PXQ : Hid _ := pxq
        have hrow := pxq.row
        rw [hlq] at hX0 hlq2 hrow
        have HLQL : Hid _ := hlq
        have FRQ : Hid _ := frq
        have hne2 := pxq.ne
        clear hec hqe hft hfl hnu hhP hLq hLl hev hzs pxq hz hre hlq frq
        have helo : W0.heap.size ≤ eb ∧ eb < w1.heap.size := by
          have h1 := (InoG.fr HGN.out FRQ.out (by omega) (by omega) (by omega) : InoG wr _ _ _ _ _ _).within eb (.inr (.inl rfl))
          exact h1
        go_wp2_with (at_builtin; refine wpList_app1 (wr.alloc (.cells #[.string z] 9)) rfl (.tmp 37) (.tmp 39) 26 9 rfl Tryz.underlying26 i0 (.string ⟨#[]⟩) 16 hi hz0 hz1 hz2 rfl (by omega) wb.heap.size gq lq cq (Lq.map Value.string) rfl (World.ownsRow.alloc hrow _) wr.heap.size (.string z) rfl (Blk.new wr 9 #[.string z] |>.cell 0) rfl (by omega) (by have := hbW1.out.size; have := FRQ.out.size; simp; omega) (wr.heap.size + 1) (by simp) ?_; intro g2 c2 W2 o2 hg2 hat2; have zc2 := ((PXQ.out.cell).alloc (.cells #[.string z] 9)).kept hg2 (Ne.symm hne2); have hX2 := zc2.cell 0; have hXf2 := zc2.frozen 0; simp at hX2)
        have hP3 := PX.app (z := z) (PXQ.out.keep ((Below.refl _ wr).alloc (Nat.le_refl _) (.cells #[.string z] 9))) (by rw [HLQL.out]; exact o2) hg2 (by simpa using hat2)
        rw [HLQL.out] at hP3
        obtain ⟨px3, fr3⟩ := hP3
        have fr4 := (Fr2.below ((Below.refl _ wr).alloc (Nat.le_refl _) (.cells #[.string z] 9)) X gq).trans (.inl rfl) fr3
        have hg2w : g2 = gq ∨ wr.heap.size ≤ g2 := by rcases hat2 with h | h <;> omega
        clear hX0 hXf y4 x1 zc2 hX2 hXf2 o2 hg2 hrow hi hz0 hz1 hz2 fr3 hat2 hz'
        obtain ⟨W3, hW3⟩ : ∃ W, W2.setCell ⟨X, 0, none⟩ (.slice (some ⟨g2, 0, none⟩) (lq + 1) c2) = W := ⟨_, rfl⟩
        rw [hW3] at px3 fr4 ⊢
        clear hW3
        have hwq := FRQ.out.size
        have h34 := fr4.size
        have HK : Hid (∀ W : World, Fr2 W3 W X g2 → W.cell? ⟨w.heap.size, 0, none⟩ = some (.slice a n cap) ∧ W.cell? ⟨w.heap.size, 1, none⟩ = some (.int .i64 nx) ∧ W.cell? ⟨w1.heap.size, 4, none⟩ = some (.slice (some ⟨eb, eo, none⟩) n2 d2) ∧ W.cell? ⟨eb, eo + q * 2 + 1, none⟩ = some (.int .i64 u)) := fun W hW => by
          have hf := fr4.trans hg2w hW
          have q1 := zTq.fr hf (by omega) (by omega)
          have q2 := zXq.fr hf (by omega) (by omega)
          refine ⟨q1.cell 0, q1.cell 1, q2.cell 4, ?_⟩
          have := hf.block eb (by omega) (by omega) (by omega)
          rw [← x2]
          exact cell_block this
        have hbW3 : Below wb.heap.size wb W3 := by
          have h1 := Below.fr hbW1.out FRQ.out hbW1.out.size hX (by omega)
          exact Below.fr h1 fr4 h1.size hX (by omega)
        have hcP := HIH.out u z W3.drew X g2 c2 (Lq ++ [z]) HLE.out (by have := HHZ.out; omega) ⟨px3.cell, px3.row⟩ hX hbW3.drew (by have := HLL.out; rw [List.length_append]; simp only [List.length_cons, List.length_nil]; omega)
        obtain ⟨k0, k1, k2, k3⟩ := HK.out W3 (Fr2.refl _ _ _)
        clear px3 x2
        go_region_held3 (fun W : World => W.cell? ⟨w.heap.size, 0, none⟩ = some (.slice a n cap) ∧ W.cell? ⟨w.heap.size, 1, none⟩ = some (.int .i64 nx) ∧ W.cell? ⟨w1.heap.size, 4, none⟩ = some (.slice (some ⟨eb, eo, none⟩) n2 d2) ∧ W.cell? ⟨eb, eo + q * 2 + 1, none⟩ = some (.int .i64 u)) (go_keep) ((go_at_call 22; (with_reducible refine hcP.mono ?_); rintro e w4 ⟨g5, c5, rfl, px5, fr5, hg5⟩; obtain ⟨p0, p1, p2, p3⟩ := HK.out w4 ⟨fr5.os, fr5.tape, fr5.output, fr5.size, fr5.block⟩))
        have fr6 : Fr2 W3 w4 X g2 := ⟨fr5.os, fr5.tape, fr5.output, fr5.size, fr5.block⟩
        have hg5' : g5 = g2 ∨ W3.heap.size ≤ g5 := hg5
        have hfin : Hid (PX wb.heap.size w4 X g5 c5 (L ++ (es.take (q + 1)).flatMap (hP ds f p)) ∧ Fr2 W1 w4 X g ∧ (g5 = g ∨ W1.heap.size ≤ g5)) := ⟨by rw [hLn.out]; exact px5, FRQ.out.trans hgq (fr4.trans hg2w fr6), by omega⟩
        clear px5 fr5 hcP k0 k1 k2 k3 p0 p1 p2 p3 fr6 fr4 hg5
        go_wp2
        go_roundw
        all_goals first
          | (case rel => (repeat apply Exists.intro); exact ⟨⟨q + 1, g5, c5, by omega, by go_num, hfin.out⟩, rfl⟩)
          | (case rel => exact ⟨q + 1, g5, c5, by omega, by go_num, hfin.out⟩)
          | (case measure => simp [intOf]; omega)
          | fail
      · have hqi : ¬ (q : Int) < (n2 : Int) := by omega
        have hke : es.take q = es := List.take_of_length_le (by rw [HN.out]; omega)
        rw [hke, HRL.out] at pxq
        have HD : Hid (∃ g' c', PX wb.heap.size wr X g' c' (L ++ RL) ∧ Fr2 w wr X g ∧ (g' = g ∨ w.heap.size ≤ g')) := ⟨gq, cq, pxq, (Fr2.below bWN X g).trans (.inl rfl) frq, by have := bWN.size; omega⟩
        clear pxq frq hke
        go_wp2
        go_end0
        obtain ⟨g', c', h1, h2, h3⟩ := HD.out
        first | exact ⟨g', c', rfl, h1, h2, h3⟩ | exact ⟨rfl, g', c', h1, h2, h3⟩ | exact ⟨rfl, g', ⟨c', h1⟩, h2, h3⟩
end

section
open Go.RowKit
set_option maxRecDepth 100000 in
set_option maxHeartbeats 4000000 in
theorem reachedS (a : Option Addr) (n cap : Nat) (nx : Int) (rs : List InoR) (w : World) (ht : TR w a n rs) :
    Calls Tryz.prog 42 #[.agg #[.slice a n cap, .int .i64 nx]] w fun e w' => ∃ a' c', e = .returned (.slice a' (reachD (rs.map InoR.D)).length c') ∧ RdV w' a' (iV (reachD (rs.map InoR.D))) ∧ Below w.heap.size w w' := by
  have B0 : Below w.heap.size w ((w.alloc (.cells #[.slice a n cap, .int .i64 nx] 30)).alloc (.cells #[] 3)) := ((Below.refl _ w).alloc (Nat.le_refl _) _).alloc (by simp) _
  have z0 := (Blk.new w 30 #[.slice a n cap, .int .i64 nx]).alloc (.cells #[] 3)
  have oE := empty_row (w.alloc (.cells #[.slice a n cap, .int .i64 nx] 30)) w.heap.size 3 1 (by simp)
  simp only [World.size_alloc] at oE
  obtain ⟨ds, hds⟩ : ∃ ds, rs.map InoR.D = ds := ⟨_, rfl⟩
  rw [hds]
  have HDS : Hid _ := hds
  have hdn : Hid (ds.length = n) := by show _ = _; rw [← hds, List.length_map, ht.len]
  have hn1 := ht.n
  have HT0 := ht.keep B0
  have HTW : Hid _ := ht
  obtain ⟨R, hR⟩ : ∃ R, reachD ds = R := ⟨_, rfl⟩
  rw [hR]
  have HR : Hid (reachD ds = R) := hR
  clear ht hds hR
  go_enter Tryz.func42, Tryz.ntmps42
  go_wp2_with fail
  obtain ⟨W0, hW0⟩ : ∃ W, (w.alloc (.cells #[.slice a n cap, .int .i64 nx] 30)).alloc (.cells #[] 3) = W := ⟨_, rfl⟩
  rw [hW0] at B0 z0 HT0 oE ⊢
  clear hW0
  have hcL := l4At_any a n cap nx 1 rs W0 HT0.len (by omega) HT0.rd
  cases hl : (look ds 1).isSome with
  | false =>
    have hl' : look ds 1 = none := by simpa using hl
    rw [atN_none (by rw [HDS.out]; exact hl')] at hcL
    have hRn : R = [] := by
      have := HR.out
      unfold reachD at this
      rw [hl] at this
      exact this.symm
    subst hRn
    have HB0 : Hid _ := B0
    clear HT0 z0 hl hl' B0 oE
    (with_reducible refine hcL.mono ?_)
    rintro e w1 ⟨rfl, b1⟩
    clear hcL
    have HD : Hid (RdV w1 (some ⟨w.heap.size + 1, 0, none⟩) (iV []) ∧ Below w.heap.size w w1) := ⟨.inl rfl, HB0.out.trans (b1.mono HB0.out.size)⟩
    go_wp2
    go_ret
    first | exact ⟨_, _, rfl, HD.out⟩ | exact ⟨_, ⟨_, rfl⟩, HD.out⟩
  | true =>
    obtain ⟨D, hD⟩ := Option.isSome_iff_exists.1 hl
    obtain ⟨pp, _, hf, _, _, hpl⟩ := lookD_some (rs := rs) (by rw [HDS.out]; exact hD)
    have hN : atN rs 1 = (pp : Int) := by unfold atN; rw [hf]
    rw [hN] at hcL
    have hge : ¬ (pp : Int) < 0 := by omega
    have hRn : Hid (reachN ds n = R) := by
      have := HR.out
      unfold reachD at this
      rw [hl, hdn.out] at this
      exact this
    have HI : Hid (∀ k, InTab ds (reachN ds k)) := fun k => InTab.reach hl k
    obtain ⟨i0, hi, hz0, hz1, hz2⟩ := info_parts Tryz.info3
    have HT : Hid _ := HT0
    have HZ : Hid _ := z0
    have HB0 : Hid _ := B0
    clear HT0 z0 B0 hl hD hf hN hpl HR
    (with_reducible refine hcL.mono ?_)
    rintro e w1 ⟨rfl, b1⟩
    clear hcL
    have hB1 : Below w.heap.size w w1 := HB0.out.trans (b1.mono HB0.out.size)
    have oE1 := row_keep6 oE b1
    go_wp2_with (at_builtin; refine wpList_app1 (w1.alloc (.cells #[.int .i64 1] 3)) rfl (.tmp 10) (.tmp 11) 41 3 rfl Tryz.underlying41 i0 (.int .i64 0) 8 hi hz0 hz1 hz2 rfl (by omega) w.heap.size (w.heap.size + 1) 0 0 [] rfl (World.ownsRow.alloc oE1 _) w1.heap.size (.int .i64 1) rfl (Blk.new w1 3 #[.int .i64 1] |>.cell 0) rfl (by omega) (by have := hB1.size; simp; omega) (w1.heap.size + 1) (by simp) ?_; intro g2 c2 W2 o2 hg2 hat2)
    have hb2 : Below w.heap.size w W2 := by
      have h2 := hB1.alloc hB1.size (.cells #[.int .i64 1] 3)
      exact h2.grown hg2 h2.size (fun m hm => by simp at hm; omega)
    have zW2 : Blk W2 w.heap.size 30 #[.slice a n cap, .int .i64 nx] := ((Blk.keep HZ.out b1).alloc _).kept hg2 (by omega)
    have l2 : RdV W2 (some ⟨g2, 0, none⟩) (iV (reachN ds 0)) := rowV_rd o2
    clear o2 hg2 hat2 oE1 oE b1 hB1 hi hz0 hz1 hz2 HT HZ
    go_loopw [3, 4] (fun l i wr => ∃ (k : Nat) (la : Option Addr) (ln lc : Nat), k ≤ n ∧ i = .int .i64 k ∧ l = .slice la ln lc ∧ (reachN ds k).length = ln ∧ RdV wr la (iV (reachN ds k)) ∧ Blk wr w.heap.size 30 #[.slice a n cap, .int .i64 nx] ∧ Below w.heap.size w wr) (fun _ i _ => n - (intOf i).toNat)
    case atStart => exact ⟨0, some ⟨g2, 0, none⟩, 1, c2, Nat.zero_le _, rfl, rfl, rfl, l2, zW2, hb2⟩
    case round =>
      obtain ⟨k, la, ln, lc, hk, rfl, rfl, hln, hrl, hz, hB⟩ := hrel
      clear l2 zW2 hb2
      have t0 := hz.cell 0
      have t1 := hz.cell 1
      simp at t0 t1
      by_cases hkn : k < n
      · have hki : (k : Int) < (n : Int) := by omega
        have hcN := l7NextS a n cap nx rs la ln lc (reachN ds k) wr (HTW.out.keep hB) hln hrl (by rw [HDS.out]; exact HI.out k)
        rw [HDS.out] at hcN
        have hZ : Hid _ := hz
        clear hz hrl
        go_wp2_with fail
        (with_reducible refine hcN.mono ?_)
        rintro e w2 ⟨a', c', rfl, hr2, b2⟩
        clear hcN t0 t1
        go_wp2
        go_roundw
        case rel => exact ⟨k + 1, a', _, c', by omega, by go_num, rfl, rfl, hr2, Blk.keep hZ.out b2, hB.trans (b2.mono hB.size)⟩
        case measure => simp [intOf]; omega
      · have hki : ¬ (k : Int) < (n : Int) := by omega
        have hkn' : k = n := by omega
        have hRk : reachN ds k = R := by rw [hkn']; exact hRn.out
        rw [hRk] at hrl hln
        subst hln
        have HD : Hid (RdV wr la (iV R) ∧ Below w.heap.size w wr) := ⟨hrl, hB⟩
        clear hrl hB hz hRk hkn'
        go_wp2
        go_ret
        first | exact ⟨_, _, rfl, HD.out⟩ | exact ⟨_, ⟨_, rfl⟩, HD.out⟩
end
end Go.Proofs.YtnadeelnjhollaaGreat
