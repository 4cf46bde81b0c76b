/-
  Joined: EncDec, ClosI, GetS.
-/
import Derived.Test.YtpejfkgbfdkdnaaJ27B
import Derived.Test.YtpejfkgbfdkdnaaJ03B
namespace Go.Proofs.Ytpejfkgbfdkdnaa
section
open Go.RowKit
theorem str_strZ (s : ByteArray) : str (strZ s) = s := by
  rw [str_is]
  unfold strZ
  simp only [List.map_map]
  have e : s.data.toList.map ((fun n : Int => UInt8.ofNat n.toNat) ∘ fun b : UInt8 => (b.toNat : Int)) = s.data.toList := by
    conv => rhs; rw [← List.map_id s.data.toList]
    refine List.map_congr_left fun b _ => ?_
    simp
  rw [e]
theorem clamp_self {x : Int} (h0 : 0 ≤ x) (h1 : x ≤ 1000000) : ((clamp x : Nat) : Int) = x := by unfold clamp; omega
theorem clamp_nat {x : Nat} (h1 : x ≤ 1000000) : clamp (x : Int) = x := by unfold clamp; omega
theorem rdN_enc (ys rest : List Int) (x : Int) : rdN (ys ++ enc x ++ rest) (some ys.length) = (clamp x, some (ys ++ enc x).length) := by
  rw [rdN_some (gn_enc ys rest x), List.length_append]
theorem rdT_enc (ys rest : List Int) (s : ByteArray) (h : s.size ≤ 1000000) : rdT (ys ++ encT s ++ rest) (some ys.length) = (s, some (ys ++ encT s).length) := by
  have e : ys ++ encT s ++ rest = ys ++ enc (s.size : Int) ++ (strZ s ++ rest) := by unfold encT; simp
  have hl := strZ_len s
  refine rdT_some ?_
  rw [e, gn_enc, clamp_nat h]
  unfold gtOf
  rw [if_neg (by simp; omega)]
  have hd : (ys ++ enc (s.size : Int) ++ (strZ s ++ rest)).drop (ys.length + (enc (s.size : Int)).length) = strZ s ++ rest := by
    rw [show ys.length + (enc (s.size : Int)).length = (ys ++ enc (s.size : Int)).length by simp, List.drop_left]
  dsimp only
  have ht : (strZ s ++ rest).take s.size = strZ s := by rw [← hl, List.take_left]
  rw [hd, ht, str_strZ]
  unfold encT
  simp only [List.length_append, Nat.add_assoc, hl]
/-- Each number has one form. -/
theorem gn_form {zs : List Int} (hb : Byt zs) {p x nx : Nat} (h : gn zs (p : Int) = (x, nx, true)) : zs.drop p = enc (x : Int) ++ zs.drop nx ∧ nx ≤ zs.length ∧ x ≤ 1000000 := by
  have hp : p < zs.length := by
    unfold gn at h
    split at h
    · simp at h
    · omega
  rw [gn_at zs p hp] at h
  have hcell : ∀ k, p + k < zs.length → ∃ Z : Nat, zs.getD (p + k) 0 = (Z : Int) ∧ Z ≤ 255 := fun k hk => by
    obtain ⟨Z, h1, h2⟩ := byt_at hb (p + k)
    exact ⟨Z, h1, h2⟩
  have hdrop : ∀ k (hk : p + k < zs.length) (Z : Nat), zs.getD (p + k) 0 = (Z : Int) → zs.drop (p + k) = (Z : Int) :: zs.drop (p + k + 1) := fun k hk Z hZ => by
    rw [List.drop_eq_getElem_cons hk]
    congr 1
    rw [← hZ]
    simp [hk]
  obtain ⟨Z0, e0, l0⟩ := hcell 0 hp
  have d0 := hdrop 0 hp Z0 e0
  by_cases c0 : 128 ≤ Z0
  · rw [gnGo_more (by omega) e0 c0] at h
    by_cases h1 : p + 1 < zs.length
    · obtain ⟨Z1, e1, l1⟩ := hcell 1 h1
      have d1 := hdrop 1 h1 Z1 e1
      by_cases c1 : 128 ≤ Z1
      · rw [gnGo_more (by omega) e1 c1] at h
        by_cases h2 : p + 2 < zs.length
        · obtain ⟨Z2, e2, l2⟩ := hcell 2 h2
          have d2 := hdrop 2 h2 Z2 e2
          by_cases c2 : 128 ≤ Z2
          · rw [gnGo_more (by omega) e2 c2] at h
            simp [gnGo] at h
          · by_cases b2 : (0 < 2 ∧ Z2 = 0) ∨ 1000000 < 0 + Z0 % 128 * 128 ^ 0 + Z1 % 128 * 128 ^ 1 + Z2 % 128 * 128 ^ 2
            · rw [gnGo_bad (by omega) e2 c2 b2] at h
              simp at h
            · rw [gnGo_good (by omega) e2 c2 b2] at h
              simp only [Prod.mk.injEq, and_true] at h
              obtain ⟨hx, hn⟩ := h
              have hx' : x = Z0 % 128 + Z1 % 128 * 128 + Z2 % 128 * 16384 := by omega
              refine ⟨?_, by omega, by omega⟩
              rw [← hn, show zs.drop p = zs.drop (p + 0) from rfl, d0, show p + 0 + 1 = p + 1 from rfl, d1, show p + 1 + 1 = p + 2 from rfl, d2]
              unfold enc
              rw [clamp_nat (by omega), enc3 (by omega) (by omega)]
              simp only [List.cons_append, List.nil_append, List.cons.injEq, and_true]
              refine ⟨by congr 1; omega, by congr 1; omega, by congr 1; omega⟩
        · rw [gnGo_end (by omega)] at h
          simp at h
      · by_cases b1 : (0 < 1 ∧ Z1 = 0) ∨ 1000000 < 0 + Z0 % 128 * 128 ^ 0 + Z1 % 128 * 128 ^ 1
        · rw [gnGo_bad (by omega) e1 c1 b1] at h
          simp at h
        · rw [gnGo_good (by omega) e1 c1 b1] at h
          simp only [Prod.mk.injEq, and_true] at h
          obtain ⟨hx, hn⟩ := h
          have hx' : x = Z0 % 128 + Z1 % 128 * 128 := by omega
          refine ⟨?_, by omega, by omega⟩
          rw [← hn, show zs.drop p = zs.drop (p + 0) from rfl, d0, show p + 0 + 1 = p + 1 from rfl, d1]
          unfold enc
          rw [clamp_nat (by omega), enc2 (by omega) (by omega)]
          simp only [List.cons_append, List.nil_append, List.cons.injEq, and_true]
          refine ⟨by congr 1; omega, by congr 1; omega⟩
    · rw [gnGo_end (by omega)] at h
      simp at h
  · by_cases b0 : (0 < 0 ∧ Z0 = 0) ∨ 1000000 < 0 + Z0 % 128 * 128 ^ 0
    · rw [gnGo_bad (by omega) e0 c0 b0] at h
      simp at h
    · rw [gnGo_good (by omega) e0 c0 b0] at h
      simp only [Prod.mk.injEq, and_true] at h
      obtain ⟨hx, hn⟩ := h
      have hx' : x = Z0 := by omega
      refine ⟨?_, by omega, by omega⟩
      rw [← hn, show zs.drop p = zs.drop (p + 0) from rfl, d0]
      unfold enc
      rw [clamp_nat (by omega), enc1 (by omega), hx']
      simp
theorem rdN_form {zs : List Int} (hb : Byt zs) {p q : Nat} (h : (rdN zs (some p)).2 = some q) : zs.drop p = enc ((rdN zs (some p)).1 : Int) ++ zs.drop q := by
  obtain ⟨⟨x, nx, b⟩, hg⟩ : ∃ r, gn zs (p : Int) = r := ⟨_, rfl⟩
  cases b with
  | false => rw [rdN_bad (by rw [hg])] at h; simp at h
  | true =>
    rw [rdN_some hg] at h ⊢
    simp at h
    subst h
    exact (gn_form hb hg).1
theorem Byt.drop {zs : List Int} (h : Byt zs) (k : Nat) : Byt (zs.drop k) := fun z hz => h z (List.mem_of_mem_drop hz)
theorem rdT_form {zs : List Int} (hb : Byt zs) {p q : Nat} (h : (rdT zs (some p)).2 = some q) : zs.drop p = encT (rdT zs (some p)).1 ++ zs.drop q := by
  obtain ⟨⟨x, nx, b⟩, hg⟩ : ∃ r, gn zs (p : Int) = r := ⟨_, rfl⟩
  cases b with
  | false => rw [rdT_bad (by rw [hg]; simp [gtOf])] at h; simp at h
  | true =>
    obtain ⟨f1, f2, f3⟩ := gn_form hb hg
    by_cases hl : zs.length < nx + x
    · rw [rdT_bad (by rw [hg]; simp [gtOf, hl])] at h; simp at h
    · have e : gtOf zs (gn zs (p : Int)) = (str ((zs.drop nx).take x), nx + x, true) := by
        rw [hg]
        unfold gtOf
        rw [if_neg (by simp; omega)]
      rw [rdT_some e] at h ⊢
      simp at h
      subst h
      dsimp only
      have hby := (hb.drop nx).take x
      unfold encT
      rw [strZ_str _ hby, str_size, f1, List.length_take, List.length_drop, Nat.min_eq_left (by omega), List.append_assoc]
      congr 1
      rw [← List.drop_drop, List.take_append_drop]
end

section
open Go.RowKit
theorem gnGo_zero {zs : List Int} {p f k acc : Nat} (h : (gnGo zs p f k acc).2.2 = false) : gnGo zs p f k acc = (0, 0, false) := by
  induction f generalizing k acc with
  | zero => rfl
  | succ f ih =>
    unfold gnGo at h ⊢
    split at h
    · rename_i h1
      rw [if_pos h1]
      split at h
      · rename_i h2
        rw [if_pos h2]
        exact ih h
      · rename_i h2
        rw [if_neg h2]
        split at h
        · rename_i h3
          rw [if_pos h3]
        · simp at h
    · rename_i h1
      rw [if_neg h1]
theorem gn_zero {zs : List Int} {p : Int} (h : (gn zs p).2.2 = false) : gn zs p = (0, 0, false) := by
  unfold gn at h ⊢
  split at h
  · rename_i h1
    rw [if_pos h1]
  · rename_i h1
    rw [if_neg h1]
    exact gnGo_zero h
theorem gt_zero {zs : List Int} {r : Nat × Nat × Bool} (h : (gtOf zs r).2.2 = false) : gtOf zs r = (ByteArray.empty, 0, false) := by
  unfold gtOf at h ⊢
  split at h
  · rename_i h1
    rw [if_pos h1]
  · simp at h
/-- The three variables that the closures share, in the blocks H, H + 1, H + 2. -/
def RI (W : World) (H : Nat) (a : Option Addr) (n cap : Nat) (st : Option Nat) : Prop :=
  ∃ p : Nat, Blk W H 22 #[.slice a n cap] ∧ Blk W (H + 1) 3 #[.int .i64 (p : Int)] ∧ Blk W (H + 2) 4 #[.bool st.isSome] ∧ ∀ q, st = some q → p = q
theorem but_two (w : World) (A B : Nat) (u v : Value) : But w ((w.setCell ⟨A, 0, none⟩ u).setCell ⟨B, 0, none⟩ v) (some A) (some B) none :=
  ⟨rfl, rfl, rfl, by simp [World.setCell], fun k _ h1 h2 _ => by
    rw [heap_setCell_other _ ⟨B, 0, none⟩ k v (fun e => h2 (by simp [e])), heap_setCell_other w ⟨A, 0, none⟩ k u (fun e => h1 (by simp [e]))]⟩
theorem but_refl (w : World) (r1 r2 r3 : Option Nat) : But w w r1 r2 r3 := ⟨rfl, rfl, rfl, Nat.le_refl _, fun _ _ _ _ _ => rfl⟩
set_option maxHeartbeats 1000000 in
theorem num_any (H : Nat) (a : Option Addr) (n cap : Nat) (zs : List Int) (st : Option Nat) (w : World) (hn : zs.length = n) (hs : n ≤ 4000000) (hcap : n ≤ cap) (hr : Rd w a zs) (hb : Byt zs) (h : RI w H a n cap st) :
    Calls Try.prog 82 #[.pointer (some ⟨H + 2, 0, none⟩), .pointer (some ⟨H, 0, none⟩), .pointer (some ⟨H + 1, 0, none⟩)] w fun e w' => e = .returned (.int .i64 ((rdN zs st).1 : Int)) ∧ RI w' H a n cap (rdN zs st).2 ∧ But w w' (some (H + 1)) (some (H + 2)) none := by
  obtain ⟨p, b0, b1, b2, hp⟩ := h
  have c0 := b0.cell 0
  have c1 := b1.cell 0
  have c2 := b2.cell 0
  have f1 := b1.frozen 0
  have f2 := b2.frozen 0
  simp at c0 c1 c2
  cases st with
  | none =>
    simp only [Option.isSome_none] at c2
    have hh : Hid (RI w H a n cap none) := ⟨p, b0, b1, b2, hp⟩
    clear b0 b1 b2 hp
    go_enter Try.func82, Try.ntmps82
    go_wp2
    go_ret
    exact ⟨rfl, hh.out, but_refl w _ _ _⟩
  | some q =>
    obtain rfl := hp q rfl
    simp only [Option.isSome_some] at c2
    have hG := implGetNum_any a n cap zs (p : Int) w hn hs hcap hr hb
    cases hok : (gn zs (p : Int)).2.2 with
    | false =>
      have hz : rdN zs (some p) = (0, none) := rdN_bad hok
      rw [gn_zero hok] at hG
      have HB : Hid (Blk w H 22 #[.slice a n cap] ∧ Blk w (H + 1) 3 #[.int .i64 (p : Int)] ∧ Blk w (H + 2) 4 #[.bool true]) := ⟨b0, b1, b2⟩
      have HZ : Hid _ := hz
      clear b0 b1 b2 hp hz hok
      go_enter Try.func82, Try.ntmps82
      go_wp2_with fail
      refine hG.mono ?_
      rintro e w1 ⟨rfl, hw⟩
      obtain rfl := hw.symm
      unfold gnVal
      go_wp2
      go_ret
      rw [HZ.out]
      obtain ⟨b0, b1, b2⟩ := HB.out
      exact ⟨rfl, ⟨0, (b0.other (by omega) 0 _).other (by omega) 0 _, (b1.set 0 _).other (by omega) 0 _, (b2.other (by omega) 0 _).set 0 _, fun q hq => by cases hq⟩, but_two w (H + 1) (H + 2) _ _⟩
    | true =>
      obtain ⟨x, hx⟩ : ∃ x, (gn zs (p : Int)).1 = x := ⟨_, rfl⟩
      obtain ⟨nx, hnx⟩ : ∃ x, (gn zs (p : Int)).2.1 = x := ⟨_, rfl⟩
      have hgn : gn zs (p : Int) = (x, nx, true) := by rw [← hx, ← hnx, ← hok]
      have HZ : Hid (rdN zs (some p) = (x, some nx)) := rdN_some hgn
      rw [hgn] at hG
      have HB : Hid (Blk w H 22 #[.slice a n cap] ∧ Blk w (H + 1) 3 #[.int .i64 (p : Int)] ∧ Blk w (H + 2) 4 #[.bool true]) := ⟨b0, b1, b2⟩
      clear b0 b1 b2 hp hok hx hnx hgn
      go_enter Try.func82, Try.ntmps82
      go_wp2_with fail
      refine hG.mono ?_
      rintro e w1 ⟨rfl, hw⟩
      obtain rfl := hw.symm
      unfold gnVal
      go_wp2
      go_ret
      rw [HZ.out]
      obtain ⟨b0, b1, b2⟩ := HB.out
      exact ⟨rfl, ⟨nx, (b0.other (by omega) 0 _).other (by omega) 0 _, (b1.set 0 _).other (by omega) 0 _, (b2.other (by omega) 0 _).set 0 _, fun q hq => by cases hq; rfl⟩, but_two w (H + 1) (H + 2) _ _⟩
set_option maxHeartbeats 1000000 in
theorem text_any (H : Nat) (a : Option Addr) (n cap : Nat) (zs : List Int) (st : Option Nat) (w : World) (hn : zs.length = n) (hs : n ≤ 4000000) (hcap : n ≤ cap) (hr : Rd w a zs) (hb : Byt zs) (h : RI w H a n cap st) :
    Calls Try.prog 84 #[.pointer (some ⟨H + 2, 0, none⟩), .pointer (some ⟨H, 0, none⟩), .pointer (some ⟨H + 1, 0, none⟩)] w fun e w' => e = .returned (.string (rdT zs st).1) ∧ RI w' H a n cap (rdT zs st).2 ∧ But w w' (some (H + 1)) (some (H + 2)) none := by
  obtain ⟨p, b0, b1, b2, hp⟩ := h
  have c0 := b0.cell 0
  have c1 := b1.cell 0
  have c2 := b2.cell 0
  have f1 := b1.frozen 0
  have f2 := b2.frozen 0
  simp at c0 c1 c2
  cases st with
  | none =>
    simp only [Option.isSome_none] at c2
    have hh : Hid (RI w H a n cap none) := ⟨p, b0, b1, b2, hp⟩
    clear b0 b1 b2 hp
    go_enter Try.func84, Try.ntmps84
    go_wp2
    go_ret
    exact ⟨rfl, hh.out, but_refl w _ _ _⟩
  | some q =>
    obtain rfl := hp q rfl
    simp only [Option.isSome_some] at c2
    have hG := implGetText_any a n cap zs (p : Int) w hn hs hcap hr hb
    cases hok : (gtOf zs (gn zs (p : Int))).2.2 with
    | false =>
      have hz : rdT zs (some p) = (ByteArray.empty, none) := rdT_bad hok
      rw [gt_zero hok] at hG
      have HB : Hid (Blk w H 22 #[.slice a n cap] ∧ Blk w (H + 1) 3 #[.int .i64 (p : Int)] ∧ Blk w (H + 2) 4 #[.bool true]) := ⟨b0, b1, b2⟩
      have HZ : Hid _ := hz
      clear b0 b1 b2 hp hz hok
      go_enter Try.func84, Try.ntmps84
      go_wp2_with fail
      refine hG.mono ?_
      rintro e w1 ⟨rfl, hw⟩
      obtain rfl := hw.symm
      unfold gtVal
      go_wp2
      go_ret
      rw [HZ.out]
      obtain ⟨b0, b1, b2⟩ := HB.out
      exact ⟨rfl, ⟨0, (b0.other (by omega) 0 _).other (by omega) 0 _, (b1.set 0 _).other (by omega) 0 _, (b2.other (by omega) 0 _).set 0 _, fun q hq => by cases hq⟩, but_two w (H + 1) (H + 2) _ _⟩
    | true =>
      obtain ⟨x, hx⟩ : ∃ x, (gtOf zs (gn zs (p : Int))).1 = x := ⟨_, rfl⟩
      obtain ⟨nx, hnx⟩ : ∃ x, (gtOf zs (gn zs (p : Int))).2.1 = x := ⟨_, rfl⟩
      have hgn : gtOf zs (gn zs (p : Int)) = (x, nx, true) := by rw [← hx, ← hnx, ← hok]
      have HZ : Hid (rdT zs (some p) = (x, some nx)) := rdT_some hgn
      rw [hgn] at hG
      have HB : Hid (Blk w H 22 #[.slice a n cap] ∧ Blk w (H + 1) 3 #[.int .i64 (p : Int)] ∧ Blk w (H + 2) 4 #[.bool true]) := ⟨b0, b1, b2⟩
      clear b0 b1 b2 hp hok hx hnx hgn
      go_enter Try.func84, Try.ntmps84
      go_wp2_with fail
      refine hG.mono ?_
      rintro e w1 ⟨rfl, hw⟩
      obtain rfl := hw.symm
      unfold gtVal
      go_wp2
      go_ret
      rw [HZ.out]
      obtain ⟨b0, b1, b2⟩ := HB.out
      exact ⟨rfl, ⟨nx, (b0.other (by omega) 0 _).other (by omega) 0 _, (b1.set 0 _).other (by omega) 0 _, (b2.other (by omega) 0 _).set 0 _, fun q hq => by cases hq; rfl⟩, but_two w (H + 1) (H + 2) _ _⟩
set_option maxHeartbeats 1000000 in
theorem atEnd_any (H : Nat) (a : Option Addr) (n cap : Nat) (st : Option Nat) (w : World) (hs : n ≤ 4000000) (h : RI w H a n cap st) :
    Calls Try.prog 86 #[.pointer (some ⟨H + 2, 0, none⟩), .pointer (some ⟨H + 1, 0, none⟩), .pointer (some ⟨H, 0, none⟩)] w fun e w' => e = .returned (.bool (decide (st = some n))) ∧ w' = w := by
  obtain ⟨p, b0, b1, b2, hp⟩ := h
  have c0 := b0.cell 0
  have c1 := b1.cell 0
  have c2 := b2.cell 0
  simp at c0 c1 c2
  clear b0 b1 b2
  cases st with
  | none =>
    simp only [Option.isSome_none] at c2
    go_enter Try.func86, Try.ntmps86
    go_wp2
    go_ret
    exact ⟨rfl, rfl⟩
  | some q =>
    obtain rfl := hp q rfl
    simp only [Option.isSome_some] at c2
    by_cases he : p = n
    · subst he
      have he' : ((p : Int) == (p : Int)) = true := by simp
      go_enter Try.func86, Try.ntmps86
      go_wp2
      go_ret
      exact ⟨ret_bool (by simp), rfl⟩
    · have he' : ((p : Int) == (n : Int)) = false := by simp; omega
      have hf : Hid (decide (some p = some n) = false) := by show _ = _; simp [he]
      clear he
      go_enter Try.func86, Try.ntmps86
      go_wp2
      go_ret
      exact ⟨ret_bool hf.out.symm, rfl⟩
set_option maxHeartbeats 1000000 in
theorem readingOf_any (a : Option Addr) (n cap : Nat) (w : World) :
    Calls Try.prog 64 #[.slice a n cap] w fun e w' => e = .returned (.tuple #[.func (.func 82) #[] #[.pointer (some ⟨w.heap.size + 2, 0, none⟩), .pointer (some ⟨w.heap.size, 0, none⟩), .pointer (some ⟨w.heap.size + 1, 0, none⟩)], .func (.func 84) #[] #[.pointer (some ⟨w.heap.size + 2, 0, none⟩), .pointer (some ⟨w.heap.size, 0, none⟩), .pointer (some ⟨w.heap.size + 1, 0, none⟩)], .func (.func 86) #[] #[.pointer (some ⟨w.heap.size + 2, 0, none⟩), .pointer (some ⟨w.heap.size + 1, 0, none⟩), .pointer (some ⟨w.heap.size, 0, none⟩)]]) ∧ RI w' w.heap.size a n cap (some 0) ∧ Below w.heap.size w w' := by
  have hmf : ∀ (fn : Fn) (first cap : Array Value) (w : World), (Instr.makeFunc fn first cap).run Try.prog w = .ok (.func fn first cap) w := fun _ _ _ _ => rfl
  go_enter Try.func64, Try.ntmps64
  go_wp2
  go_ret3
  refine ⟨rfl, ⟨0, ?_, ?_, ?_, fun q hq => by cases hq; rfl⟩, ?_⟩
  · exact ((Blk.new w 22 _).alloc _).alloc _
  · exact (Blk.newAt (by simp)).alloc _
  · exact Blk.newAt (by simp)
  · exact (((Below.refl _ w).alloc (Nat.le_refl _) _).alloc (by simp) _).alloc (by simp; omega) _
end

section
open Go.RowKit
theorem RS.kp {W W' : World} {R : Nat} {a : Option Addr} {n cap : Nat} {st : Option Nat} {ts : List TypeId} (h : RS W R a n cap st) (k : KpT W W' ts) (ht : 84 ∈ ts) : RS W' R a n cap st := by
  obtain ⟨p, h1, h2⟩ := h
  exact ⟨p, h1.kp k ht, h2⟩
theorem RI.kp {W W' : World} {H : Nat} {a : Option Addr} {n cap : Nat} {st : Option Nat} {ts : List TypeId} (h : RI W H a n cap st) (k : KpT W W' ts) (h1 : 22 ∈ ts) (h2 : 3 ∈ ts) (h3 : 4 ∈ ts) : RI W' H a n cap st := by
  obtain ⟨p, b0, b1, b2, hp⟩ := h
  exact ⟨p, b0.kp k h1, b1.kp k h2, b2.kp k h3, hp⟩
/-- A text turned into bytes: a new block. -/
theorem conv_str (w : World) (s : ByteArray) : ∃ c W, (convert 9 22 (.string s)).run Try.prog w = .ok (.slice (some ⟨w.heap.size, 0, none⟩) s.size c) W ∧ OwnB W w.heap.size s.size (strZ s) ∧ Below w.heap.size w W := by
  refine ⟨_, _, Lib.run_convert_string_bytes w 9 22 5 s Try.underlying9 Try.underlying22 Try.underlying5, ?_, ?_⟩
  · have hsz : (Lib.bytesCells w 5 s).size = s.size + (grownCap w s.size 0 5 - s.size) := by simp [Lib.bytesCells]
    refine ⟨strZ_len s, _, _, Lib.bytesWorld_at_new w 5 s, by omega, fun i hi => ?_, by show s.size ≤ (Lib.bytesCells w 5 s).size; omega⟩
    have := Lib.bytesWorld_cell w 5 s i hi
    rw [cell_of_row _ _ i _ 5 _ (Lib.bytesWorld_at_new w 5 s)] at this
    rw [this]
    have hl : i < s.data.toList.length := by rw [Array.length_toList]; exact hi
    simp only [strZ, List.getD_eq_getElem?_getD, List.getElem?_map, List.getElem?_eq_getElem hl, Option.map_some, Option.getD_some]
  · exact ⟨rfl, rfl, rfl, by rw [Lib.bytesWorld_size]; omega, fun k hk => Lib.bytesWorld_at_old w 5 s k hk⟩
end
end Go.Proofs.Ytpejfkgbfdkdnaa
