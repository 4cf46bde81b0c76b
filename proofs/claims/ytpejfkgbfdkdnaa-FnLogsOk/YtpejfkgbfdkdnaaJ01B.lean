/-
  Joined: Put, Mark, Name.
-/
import Derived.Test.YtpejfkgbfdkdnaaJ00B
import Derived.Maps.AppendAt
import Derived.Lib.SliceRun
import Derived.Lib.Strings
namespace Go.Proofs.Ytpejfkgbfdkdnaa
section
open Go.RowKit
/-- An append onto a row of the call's own, the new slice written out. -/
theorem wpList_app (w : World) {ops : Array Oper} {rest : List Oper} {o : Oper} {a : Act} {Q : Exit → Act → World → Prop} (hgd : o.guard = none) (s x : Operand)
    (ho : o.op = .call { callee := .builtin .append, args := #[s, x], argTypes := #[22, 22] })
    (g n c : Nat) (zs : List Int) (hs : a.eval s = .slice (some ⟨g, 0, none⟩) n c) (hown : Own w g n c zs)
    (ad : Addr) (m c' : Nat) (ys : List Int) (hx : a.eval x = .slice (some ad) m c') (hl : ys.length = m)
    (hnews : ∀ j, j < m → w.cell? (ad.add j) = some (.int .u8 (ys.getD j 0))) (hb : n + m ≤ 8000000) (H : Nat) (hH : w.heap.size = H)
    (h : ∀ g' cap' w', Own w' g' (n + m) cap' (zs ++ ys) → w.grownBy w' (some g) → (g' = g ∨ g' = H) → wpList Try.prog ops Q rest (a.put o.dst (.slice (some ⟨g', 0, none⟩) (n + m) cap')) w') :
    wpList Try.prog ops Q (o :: rest) a w := by
  obtain ⟨i0, hi, hz0, hz1, hz2⟩ := info_parts Try.info5
  refine wpList_append_own_at w hgd s x 22 ho 0 5 i0 (.int .u8 0) 1 1 Try.underlying22 hi hz0 hz1 hz2 rfl (by decide) _ n (zs.map (Value.int .u8)) hs hown ad m c' (ys.map (Value.int .u8)) hx (by simp [hl]) ?_ ?_ (by unfold maxLen; omega) (by omega) (Nat.zero_le _) ?_
  · intro j u hj
    simp only [List.getElem?_map] at hj
    by_cases hjm : j < m
    · rw [hnews j hjm]
      rw [List.getElem?_eq_getElem (by omega)] at hj
      simpa [List.getElem?_eq_getElem (show j < ys.length by omega)] using hj
    · rw [List.getElem?_eq_none (by omega)] at hj
      simp at hj
  · intro u hu
    simp only [List.mem_map] at hu
    obtain ⟨z, _, rfl⟩ := hu
    rfl
  · intro v' w' h1 h2 h3 h4
    have h1' := h1
    rcases h1.2 with ⟨e, _⟩ | ⟨g', cap', cur, e, _⟩
    · exact absurd (h3.1 e).1 (by simp)
    · subst e
      refine h g' cap' w' ?_ h2 ?_
      · unfold Own; rw [List.map_append]; exact h1'
      · rcases h4 with h4 | h4
        · left; simpa [Value.ownBlock] using h4
        · right; rw [← hH]; simpa [Value.ownBlock] using h4
theorem own_empty (w : World) : Own (w.alloc (.cells #[] 5)) w.heap.size 0 0 [] := by
  exact World.ownsRow_made (base := 0) (e := 5) (size := 1) w #[] 0 (Nat.zero_le _) (by unfold maxLen; omega) rfl
theorem Rd.news {w : World} {ad : Addr} {zs : List Int} {m : Nat} (h : Rd w (some ad) zs) (hl : zs.length = m) : ∀ j, j < m → w.cell? (ad.add j) = some (.int .u8 (zs.getD j 0)) := by
  intro j hj
  rcases h with h | ⟨b, off, e, hc⟩
  · subst h; simp at hl; omega
  · obtain rfl : ad = ⟨b, off, none⟩ := by simpa using e
    have e' : (⟨b, off, none⟩ : Addr).add j = ⟨b, off + j, none⟩ := by simp [Addr.add]
    rw [e']; exact hc j (by omega)
/-- The groups of a number, fuel f. -/
def encGo : Nat → Nat → List Int
  | 0, m => [(m : Int)]
  | f + 1, m => if 128 ≤ m then ((m % 128 + 128 : Nat) : Int) :: encGo f (m / 128) else [(m : Int)]
def clamp (x : Int) : Nat := (min (max x 0) 1000000).toNat
def enc (x : Int) : List Int := encGo 3 (clamp x)
theorem encGo_more {f m : Nat} (h : 128 ≤ m) : encGo (f + 1) m = ((m % 128 + 128 : Nat) : Int) :: encGo f (m / 128) := by
  conv => lhs; unfold encGo
  rw [if_pos h]
theorem encGo_last {f m : Nat} (h : ¬ 128 ≤ m) : encGo f m = [(m : Int)] := by
  cases f with
  | zero => rfl
  | succ f => unfold encGo; rw [if_neg h]
theorem clamp_le (x : Int) : clamp x ≤ 1000000 := by unfold clamp; omega
theorem one_news (w : World) (z : Int) : ∀ j, j < 1 → (w.alloc (.cells #[.int .u8 z] 5)).cell? ((⟨w.heap.size, 0, none⟩ : Addr).add j) = some (.int .u8 ([z].getD j 0)) := by
  intro j hj
  obtain rfl : j = 0 := by omega
  exact cell_one_new w (.int .u8 z) 5 0 _ rfl
theorem enc_step {zs es acc : List Int} {f m : Nat} (h : zs ++ es = acc ++ encGo (f + 1) m) (hm : 128 ≤ m) : zs ++ es = (acc ++ [(m : Int) % 128 + 128]) ++ encGo f (m / 128) := by
  rw [h, encGo_more hm, List.append_assoc]
  have e : ((m % 128 + 128 : Nat) : Int) = (m : Int) % 128 + 128 := by omega
  rw [e]; rfl
/-- What both PutNum functions answer: a new row, of the bytes and behind them the number's groups. -/
def PutPost (w : World) (n : Nat) (ys : List Int) (e : Ending) (w' : World) : Prop :=
  ∃ g c, e = .returned (.slice (some ⟨g, 0, none⟩) n c) ∧ w.heap.size ≤ g ∧ Own w' g n c ys ∧ Below w.heap.size w w'
theorem and127_or (m : Nat) (h : m ≤ 1000000) : bits .or .i64 (bits .and .i64 (m : Int) 127) 128 = (m : Int) % 128 + 128 := by
  have e1 := i64_and_nat m 127 (by omega) (by omega)
  rw [nat_mask7] at e1
  have e2 := i64_or_nat (m % 128) 128 (by omega) (by omega)
  rw [Nat.or_comm, nat_join 7 128 _ (by omega) (by omega)] at e2
  have e3 : bits .and .i64 (m : Int) 127 = ((m % 128 : Nat) : Int) := e1
  rw [e3]
  have e4 : bits .or .i64 ((m % 128 : Nat) : Int) 128 = ((128 + m % 128 : Nat) : Int) := e2
  rw [e4]; omega
set_option maxRecDepth 100000 in
set_option maxHeartbeats 800000 in
theorem specPutNum_any (ad : Addr) (n cap : Nat) (zs : List Int) (x : Int) (w : World) (hn : zs.length = n) (hs : n ≤ 3000000) (hr : Rd w (some ad) zs) :
    Calls Try.prog 96 #[.slice (some ad) n cap, .int .i64 x] w (PutPost w (n + (enc x).length) (zs ++ enc x)) := by
  have hb0 := (Below.refl w.heap.size w).alloc (Nat.le_refl _) (.cells #[] 5)
  have hr2 := hr.keep hb0
  have hn' : Hid (zs.length = n) := hn
  clear hn hr
  rcases (show x < 0 ∨ (0 ≤ x ∧ x ≤ 1000000) ∨ 1000000 < x by omega) with hx | ⟨hx, hx1⟩ | hx
  all_goals
    go_enter Try.func96, Try.ntmps96
    go_wp2_with (at_builtin; refine wpList_app _ rfl (.tmp 6) (.tmp 7) rfl w.heap.size 0 0 [] rfl (own_empty w) ad n cap zs rfl hn'.out (hr2.news hn'.out) (by omega) (w.heap.size + 1) (by simp) ?_; intro g0 c0 w0 hown0 hgrow0 hat0)
    have hB0 : Below w.heap.size w w0 := hb0.trans ((Below.refl _ _).grown hgrow0 (by simp) (by intro k hk; simp at hk; omega))
    have hg0 : w.heap.size ≤ g0 := by omega
    clear hgrow0 hat0 hb0 hr2
    simp only [Nat.zero_add, List.nil_append] at hown0
    go_loopw [5, 1] (fun v i wr => ∃ (g' c' m f : Nat) (acc : List Int), v = .slice (some ⟨g', 0, none⟩) acc.length c' ∧ i = .int .i64 m ∧ m ≤ 1000000 ∧ Own wr g' acc.length c' acc ∧ Below w.heap.size w wr ∧ w.heap.size ≤ g' ∧ m < 128 ^ (f + 1) ∧ acc.length + f ≤ n + 3 ∧ Hid (zs ++ enc x = acc ++ encGo f m)) (fun _ i _ => (intOf i).toNat)
    case atStart => exact ⟨g0, c0, clamp x, 3, zs, by rw [hn'.out], val_int (by unfold clamp; omega), clamp_le x, by rw [hn'.out]; exact hown0, hB0, hg0, by have := clamp_le x; omega, by rw [hn'.out]; omega, rfl⟩
    case round =>
      obtain ⟨g1, c1, m, f, acc, rfl, rfl, hm, ho1, hg1, ha1, hm1, hl1, he1⟩ := hrel
      by_cases hm2 : 128 ≤ m
      · have hm3 : (127 : Int) < (m : Int) := by omega
        have hbit := and127_or m hm
        go_wp2_with (at_builtin; refine wpList_app _ rfl (.tmp 15) (.tmp 20) rfl g1 acc.length c1 acc rfl (World.ownsRow.alloc ho1 _) ⟨wr.heap.size, 0, none⟩ 1 1 [(m : Int) % 128 + 128] rfl rfl (one_news wr _) (by omega) (wr.heap.size + 1) (by simp) ?_; intro g2 c2 w2 ho2 hg2 ha2)
        obtain ⟨f', rfl⟩ : ∃ f', f = f' + 1 := by
          cases f with
          | zero => omega
          | succ f' => exact ⟨f', rfl⟩
        go_roundw
        case rel => exact ⟨g2, c2, m / 128, f', acc ++ [(m : Int) % 128 + 128], by simp, by go_num, by omega, by simpa using ho2, hg1.trans (((Below.refl _ _).alloc hg1.size _).grown hg2 (by simp; have := hg1.size; omega) (by intro k hk; simp at hk; omega)), by have := hg1.size; omega, Nat.div_lt_of_lt_mul (by rw [Nat.pow_succ] at hm1; omega), by simp; omega, enc_step he1.out hm2⟩
        case measure => simp [intOf]; omega
      · have hm3 : ¬ (127 : Int) < (m : Int) := by omega
        go_wp2_with (at_builtin; refine wpList_app _ rfl (.tmp 24) (.tmp 27) rfl g1 acc.length c1 acc rfl (World.ownsRow.alloc ho1 _) ⟨wr.heap.size, 0, none⟩ 1 1 [(m : Int)] rfl rfl (one_news wr _) (by omega) (wr.heap.size + 1) (by simp) ?_; intro g2 c2 w2 ho2 hg2 ha2)
        have HE : zs ++ enc x = acc ++ [(m : Int)] := by rw [he1.out, encGo_last hm2]
        have HL : n + (enc x).length = acc.length + 1 := by
          have := congrArg List.length HE
          simp only [List.length_append, hn'.out, List.length_cons, List.length_nil] at this
          omega
        go_ret
        refine ⟨g2, c2, by rw [HL]; rfl, by have := hg1.size; omega, by rw [HL, HE]; exact ho2, hg1.trans (((Below.refl _ _).alloc hg1.size _).grown hg2 (by simp; have := hg1.size; omega) (by intro k hk; simp at hk; omega))⟩
end

section
open Go.RowKit
theorem encGo_len (f m : Nat) : (encGo f m).length ≤ f + 1 := by
  induction f generalizing m with
  | zero => simp [encGo]
  | succ f ih =>
    unfold encGo
    split
    · have := ih (m / 128); simp only [List.length_cons]; omega
    · simp
theorem enc_len (x : Int) : (enc x).length ≤ 4 := encGo_len 3 _
theorem Own.kept {w w' : World} {g n c g2 : Nat} {zs : List Int} (h : Own w g n c zs) (hg : w.grownBy w' (some g2)) (hne : g ≠ g2) : Own w' g n c zs :=
  World.ownsRow.kept h hg (.inr (by simp [Value.ownBlock, hne]))
end

section
open Go.RowKit
theorem ret_bool {a b : Bool} (h : a = b) : Ending.returned (.bool a) = .returned (.bool b) := by rw [h]
set_option maxHeartbeats 400000 in
theorem l1In_any (x lo hi : Int) (w : World) : Calls Try.prog 37 #[.int .i64 x, .int .i64 lo, .int .i64 hi] w fun e w' => e = .returned (.bool (decide (lo ≤ x) && decide (x ≤ hi))) ∧ w' = w := by
  go_enter Try.func37, Try.ntmps37
  go_wp2
  all_goals go_ret
  all_goals (refine ⟨ret_bool ?_, rfl⟩; simp; try omega)
/-- The k-th byte of a text. -/
def byt (s : ByteArray) (k : Nat) : UInt8 := s.data.toList.getD k 0
end
end Go.Proofs.Ytpejfkgbfdkdnaa
