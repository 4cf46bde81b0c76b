/-
  Joined: GetM, ClosI.
-/
import Derived.Test.YtmkcadnpleijdaaJ17U
namespace Go.Proofs.Ytmkcadnpleijdaa
section
open Go.RowKit
/-- k entries read on. -/
def rdE (zs : List Int) (st : Option Nat) : Nat → List (ByteArray × Int) × Option Nat
  | 0 => ([], st)
  | k + 1 => ((rdE zs st k).1 ++ [((rdT zs (rdE zs st k).2).1, ((rdN zs (rdT zs (rdE zs st k).2).2).1 : Int))], (rdN zs (rdT zs (rdE zs st k).2).2).2)
/-- k attributes read on. -/
def rdA (zs : List Int) (st : Option Nat) : Nat → List (ByteArray × ByteArray) × Option Nat
  | 0 => ([], st)
  | k + 1 => ((rdA zs st k).1 ++ [((rdT zs (rdA zs st k).2).1, (rdT zs (rdT zs (rdA zs st k).2).2).1)], (rdT zs (rdT zs (rdA zs st k).2).2).2)
def g1 (zs : List Int) := rdN zs (some 0)
def g2 (zs : List Int) := rdN zs (g1 zs).2
def g3 (zs : List Int) := rdN zs (g2 zs).2
def g4 (zs : List Int) := rdT zs (g3 zs).2
def g5 (zs : List Int) := rdN zs (g4 zs).2
def gE (zs : List Int) := rdE zs (g5 zs).2 (min (g5 zs).1 11)
def g6 (zs : List Int) := rdN zs (gE zs).2
def gA (zs : List Int) := rdA zs (g6 zs).2 (min (g6 zs).1 5)
theorem rdT_size (zs : List Int) (st : Option Nat) : (rdT zs st).1.size ≤ zs.length := by
  cases st with
  | none => simp [rdT]
  | some p =>
    unfold rdT
    simp only
    split
    · unfold gtOf
      split
      · simp
      · rw [show (str ((zs.drop (gn zs (p : Int)).2.1).take (gn zs (p : Int)).1), (gn zs (p : Int)).2.1 + (gn zs (p : Int)).1, true).1 = str ((zs.drop (gn zs (p : Int)).2.1).take (gn zs (p : Int)).1) from rfl, str_size]
        simp
        omega
    · simp
theorem rdN_le (zs : List Int) (st : Option Nat) : (rdN zs st).1 ≤ 1000000 := by
  cases st with
  | none => simp [rdN]
  | some p =>
    unfold rdN
    simp only
    split
    · rename_i h
      exact (gn_next h).2.2
    · simp
end

section
open Go.RowKit
theorem gnGo_zero {zs : List Int} {p f k acc : Nat} (h : (gnGo zs p f k acc).2.2 = false) : gnGo zs p f k acc = (0, 0, false) := by
  induction f generalizing k acc with
  | zero => rfl
  | succ f ih =>
    unfold gnGo at h ⊢
    split at h
    · rename_i h1
      rw [if_pos h1]
      split at h
      · rename_i h2
        rw [if_pos h2]
        exact ih h
      · rename_i h2
        rw [if_neg h2]
        split at h
        · rename_i h3
          rw [if_pos h3]
        · simp at h
    · rename_i h1
      rw [if_neg h1]
theorem gn_zero {zs : List Int} {p : Int} (h : (gn zs p).2.2 = false) : gn zs p = (0, 0, false) := by
  unfold gn at h ⊢
  split at h
  · rename_i h1
    rw [if_pos h1]
  · rename_i h1
    rw [if_neg h1]
    exact gnGo_zero h
theorem gt_zero {zs : List Int} {r : Nat × Nat × Bool} (h : (gtOf zs r).2.2 = false) : gtOf zs r = (ByteArray.empty, 0, false) := by
  unfold gtOf at h ⊢
  split at h
  · rename_i h1
    rw [if_pos h1]
  · simp at h
/-- The three variables that the closures share, in the blocks H, H + 1, H + 2. -/
def RI (W : World) (H : Nat) (a : Option Addr) (n cap : Nat) (st : Option Nat) : Prop :=
  ∃ p : Nat, Blk W H 22 #[.slice a n cap] ∧ Blk W (H + 1) 3 #[.int .i64 (p : Int)] ∧ Blk W (H + 2) 4 #[.bool st.isSome] ∧ ∀ q, st = some q → p = q
theorem but_two (w : World) (A B : Nat) (u v : Value) : But w ((w.setCell ⟨A, 0, none⟩ u).setCell ⟨B, 0, none⟩ v) (some A) (some B) none :=
  ⟨rfl, rfl, rfl, by simp [World.setCell], fun k _ h1 h2 _ => by
    rw [heap_setCell_other _ ⟨B, 0, none⟩ k v (fun e => h2 (by simp [e])), heap_setCell_other w ⟨A, 0, none⟩ k u (fun e => h1 (by simp [e]))]⟩
theorem but_refl (w : World) (r1 r2 r3 : Option Nat) : But w w r1 r2 r3 := ⟨rfl, rfl, rfl, Nat.le_refl _, fun _ _ _ _ _ => rfl⟩
set_option maxHeartbeats 1000000 in
theorem num_any (H : Nat) (a : Option Addr) (n cap : Nat) (zs : List Int) (st : Option Nat) (w : World) (hn : zs.length = n) (hs : n ≤ 4000000) (hcap : n ≤ cap) (hr : Rd w a zs) (hb : Byt zs) (h : RI w H a n cap st) :
    Calls Try.prog 55 #[.pointer (some ⟨H + 2, 0, none⟩), .pointer (some ⟨H, 0, none⟩), .pointer (some ⟨H + 1, 0, none⟩)] w fun e w' => e = .returned (.int .i64 ((rdN zs st).1 : Int)) ∧ RI w' H a n cap (rdN zs st).2 ∧ But w w' (some (H + 1)) (some (H + 2)) none := by
  obtain ⟨p, b0, b1, b2, hp⟩ := h
  have c0 := b0.cell 0
  have c1 := b1.cell 0
  have c2 := b2.cell 0
  have f1 := b1.frozen 0
  have f2 := b2.frozen 0
  simp at c0 c1 c2
  cases st with
  | none =>
    simp only [Option.isSome_none] at c2
    have hh : Hid (RI w H a n cap none) := ⟨p, b0, b1, b2, hp⟩
    clear b0 b1 b2 hp
    go_enter Try.func55, Try.ntmps55
    go_wp2
    go_ret
    exact ⟨rfl, hh.out, but_refl w _ _ _⟩
  | some q =>
    obtain rfl := hp q rfl
    simp only [Option.isSome_some] at c2
    have hG := implGetNum_any a n cap zs (p : Int) w hn hs hcap hr hb
    cases hok : (gn zs (p : Int)).2.2 with
    | false =>
      have hz : rdN zs (some p) = (0, none) := rdN_bad hok
      rw [gn_zero hok] at hG
      have HB : Hid (Blk w H 22 #[.slice a n cap] ∧ Blk w (H + 1) 3 #[.int .i64 (p : Int)] ∧ Blk w (H + 2) 4 #[.bool true]) := ⟨b0, b1, b2⟩
      have HZ : Hid _ := hz
      clear b0 b1 b2 hp hz hok
      go_enter Try.func55, Try.ntmps55
      go_wp2_with fail
      refine hG.mono ?_
      rintro e w1 ⟨rfl, hw⟩
      obtain rfl := hw.symm
      unfold gnVal
      go_wp2
      go_ret
      rw [HZ.out]
      obtain ⟨b0, b1, b2⟩ := HB.out
      exact ⟨rfl, ⟨0, (b0.other (by omega) 0 _).other (by omega) 0 _, (b1.set 0 _).other (by omega) 0 _, (b2.other (by omega) 0 _).set 0 _, fun q hq => by cases hq⟩, but_two w (H + 1) (H + 2) _ _⟩
    | true =>
      obtain ⟨x, hx⟩ : ∃ x, (gn zs (p : Int)).1 = x := ⟨_, rfl⟩
      obtain ⟨nx, hnx⟩ : ∃ x, (gn zs (p : Int)).2.1 = x := ⟨_, rfl⟩
      have hgn : gn zs (p : Int) = (x, nx, true) := by rw [← hx, ← hnx, ← hok]
      have HZ : Hid (rdN zs (some p) = (x, some nx)) := rdN_some hgn
      rw [hgn] at hG
      have HB : Hid (Blk w H 22 #[.slice a n cap] ∧ Blk w (H + 1) 3 #[.int .i64 (p : Int)] ∧ Blk w (H + 2) 4 #[.bool true]) := ⟨b0, b1, b2⟩
      clear b0 b1 b2 hp hok hx hnx hgn
      go_enter Try.func55, Try.ntmps55
      go_wp2_with fail
      refine hG.mono ?_
      rintro e w1 ⟨rfl, hw⟩
      obtain rfl := hw.symm
      unfold gnVal
      go_wp2
      go_ret
      rw [HZ.out]
      obtain ⟨b0, b1, b2⟩ := HB.out
      exact ⟨rfl, ⟨nx, (b0.other (by omega) 0 _).other (by omega) 0 _, (b1.set 0 _).other (by omega) 0 _, (b2.other (by omega) 0 _).set 0 _, fun q hq => by cases hq; rfl⟩, but_two w (H + 1) (H + 2) _ _⟩
set_option maxHeartbeats 1000000 in
theorem text_any (H : Nat) (a : Option Addr) (n cap : Nat) (zs : List Int) (st : Option Nat) (w : World) (hn : zs.length = n) (hs : n ≤ 4000000) (hcap : n ≤ cap) (hr : Rd w a zs) (hb : Byt zs) (h : RI w H a n cap st) :
    Calls Try.prog 57 #[.pointer (some ⟨H + 2, 0, none⟩), .pointer (some ⟨H, 0, none⟩), .pointer (some ⟨H + 1, 0, none⟩)] w fun e w' => e = .returned (.string (rdT zs st).1) ∧ RI w' H a n cap (rdT zs st).2 ∧ But w w' (some (H + 1)) (some (H + 2)) none := by
  obtain ⟨p, b0, b1, b2, hp⟩ := h
  have c0 := b0.cell 0
  have c1 := b1.cell 0
  have c2 := b2.cell 0
  have f1 := b1.frozen 0
  have f2 := b2.frozen 0
  simp at c0 c1 c2
  cases st with
  | none =>
    simp only [Option.isSome_none] at c2
    have hh : Hid (RI w H a n cap none) := ⟨p, b0, b1, b2, hp⟩
    clear b0 b1 b2 hp
    go_enter Try.func57, Try.ntmps57
    go_wp2
    go_ret
    exact ⟨rfl, hh.out, but_refl w _ _ _⟩
  | some q =>
    obtain rfl := hp q rfl
    simp only [Option.isSome_some] at c2
    have hG := implGetText_any a n cap zs (p : Int) w hn hs hcap hr hb
    cases hok : (gtOf zs (gn zs (p : Int))).2.2 with
    | false =>
      have hz : rdT zs (some p) = (ByteArray.empty, none) := rdT_bad hok
      rw [gt_zero hok] at hG
      have HB : Hid (Blk w H 22 #[.slice a n cap] ∧ Blk w (H + 1) 3 #[.int .i64 (p : Int)] ∧ Blk w (H + 2) 4 #[.bool true]) := ⟨b0, b1, b2⟩
      have HZ : Hid _ := hz
      clear b0 b1 b2 hp hz hok
      go_enter Try.func57, Try.ntmps57
      go_wp2_with fail
      refine hG.mono ?_
      rintro e w1 ⟨rfl, hw⟩
      obtain rfl := hw.symm
      unfold gtVal
      go_wp2
      go_ret
      rw [HZ.out]
      obtain ⟨b0, b1, b2⟩ := HB.out
      exact ⟨rfl, ⟨0, (b0.other (by omega) 0 _).other (by omega) 0 _, (b1.set 0 _).other (by omega) 0 _, (b2.other (by omega) 0 _).set 0 _, fun q hq => by cases hq⟩, but_two w (H + 1) (H + 2) _ _⟩
    | true =>
      obtain ⟨x, hx⟩ : ∃ x, (gtOf zs (gn zs (p : Int))).1 = x := ⟨_, rfl⟩
      obtain ⟨nx, hnx⟩ : ∃ x, (gtOf zs (gn zs (p : Int))).2.1 = x := ⟨_, rfl⟩
      have hgn : gtOf zs (gn zs (p : Int)) = (x, nx, true) := by rw [← hx, ← hnx, ← hok]
      have HZ : Hid (rdT zs (some p) = (x, some nx)) := rdT_some hgn
      rw [hgn] at hG
      have HB : Hid (Blk w H 22 #[.slice a n cap] ∧ Blk w (H + 1) 3 #[.int .i64 (p : Int)] ∧ Blk w (H + 2) 4 #[.bool true]) := ⟨b0, b1, b2⟩
      clear b0 b1 b2 hp hok hx hnx hgn
      go_enter Try.func57, Try.ntmps57
      go_wp2_with fail
      refine hG.mono ?_
      rintro e w1 ⟨rfl, hw⟩
      obtain rfl := hw.symm
      unfold gtVal
      go_wp2
      go_ret
      rw [HZ.out]
      obtain ⟨b0, b1, b2⟩ := HB.out
      exact ⟨rfl, ⟨nx, (b0.other (by omega) 0 _).other (by omega) 0 _, (b1.set 0 _).other (by omega) 0 _, (b2.other (by omega) 0 _).set 0 _, fun q hq => by cases hq; rfl⟩, but_two w (H + 1) (H + 2) _ _⟩
set_option maxHeartbeats 1000000 in
theorem atEnd_any (H : Nat) (a : Option Addr) (n cap : Nat) (st : Option Nat) (w : World) (hs : n ≤ 4000000) (h : RI w H a n cap st) :
    Calls Try.prog 59 #[.pointer (some ⟨H + 2, 0, none⟩), .pointer (some ⟨H + 1, 0, none⟩), .pointer (some ⟨H, 0, none⟩)] w fun e w' => e = .returned (.bool (decide (st = some n))) ∧ w' = w := by
  obtain ⟨p, b0, b1, b2, hp⟩ := h
  have c0 := b0.cell 0
  have c1 := b1.cell 0
  have c2 := b2.cell 0
  simp at c0 c1 c2
  clear b0 b1 b2
  cases st with
  | none =>
    simp only [Option.isSome_none] at c2
    go_enter Try.func59, Try.ntmps59
    go_wp2
    go_ret
    exact ⟨rfl, rfl⟩
  | some q =>
    obtain rfl := hp q rfl
    simp only [Option.isSome_some] at c2
    by_cases he : p = n
    · subst he
      have he' : ((p : Int) == (p : Int)) = true := by simp
      go_enter Try.func59, Try.ntmps59
      go_wp2
      go_ret
      exact ⟨ret_bool (by simp), rfl⟩
    · have he' : ((p : Int) == (n : Int)) = false := by simp; omega
      have hf : Hid (decide (some p = some n) = false) := by show _ = _; simp [he]
      clear he
      go_enter Try.func59, Try.ntmps59
      go_wp2
      go_ret
      exact ⟨ret_bool hf.out.symm, rfl⟩
set_option maxHeartbeats 1000000 in
theorem readingOf_any (a : Option Addr) (n cap : Nat) (w : World) :
    Calls Try.prog 34 #[.slice a n cap] w fun e w' => e = .returned (.tuple #[.func (.func 55) #[] #[.pointer (some ⟨w.heap.size + 2, 0, none⟩), .pointer (some ⟨w.heap.size, 0, none⟩), .pointer (some ⟨w.heap.size + 1, 0, none⟩)], .func (.func 57) #[] #[.pointer (some ⟨w.heap.size + 2, 0, none⟩), .pointer (some ⟨w.heap.size, 0, none⟩), .pointer (some ⟨w.heap.size + 1, 0, none⟩)], .func (.func 59) #[] #[.pointer (some ⟨w.heap.size + 2, 0, none⟩), .pointer (some ⟨w.heap.size + 1, 0, none⟩), .pointer (some ⟨w.heap.size, 0, none⟩)]]) ∧ RI w' w.heap.size a n cap (some 0) ∧ Below w.heap.size w w' := by
  have hmf : ∀ (fn : Fn) (first cap : Array Value) (w : World), (Instr.makeFunc fn first cap).run Try.prog w = .ok (.func fn first cap) w := fun _ _ _ _ => rfl
  go_enter Try.func34, Try.ntmps34
  go_wp2
  go_ret3
  refine ⟨rfl, ⟨0, ?_, ?_, ?_, fun q hq => by cases hq; rfl⟩, ?_⟩
  · exact ((Blk.new w 22 _).alloc _).alloc _
  · exact (Blk.newAt (by simp)).alloc _
  · exact Blk.newAt (by simp)
  · exact (((Below.refl _ w).alloc (Nat.le_refl _) _).alloc (by simp) _).alloc (by simp; omega) _
end
end Go.Proofs.Ytmkcadnpleijdaa
