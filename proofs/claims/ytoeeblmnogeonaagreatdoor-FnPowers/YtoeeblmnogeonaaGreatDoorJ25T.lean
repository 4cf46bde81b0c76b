/-
  Joined: ClosI, GetS, SpecGet, ImplGet.
-/
import Derived.Test.YtoeeblmnogeonaaGreatDoorJ24T
import Derived.Deep.CutBlock
namespace Go.Proofs.YtoeeblmnogeonaaGreatDoor
section
open Go.RowKit
theorem gnGo_zero {zs : List Int} {p f k acc : Nat} (h : (gnGo zs p f k acc).2.2 = false) : gnGo zs p f k acc = (0, 0, false) := by
  induction f generalizing k acc with
  | zero => rfl
  | succ f ih =>
    unfold gnGo at h ⊢
    split at h
    · rename_i h1
      rw [if_pos h1]
      split at h
      · rename_i h2
        rw [if_pos h2]
        exact ih h
      · rename_i h2
        rw [if_neg h2]
        split at h
        · rename_i h3
          rw [if_pos h3]
        · simp at h
    · rename_i h1
      rw [if_neg h1]
theorem gn_zero {zs : List Int} {p : Int} (h : (gn zs p).2.2 = false) : gn zs p = (0, 0, false) := by
  unfold gn at h ⊢
  split at h
  · rename_i h1
    rw [if_pos h1]
  · rename_i h1
    rw [if_neg h1]
    exact gnGo_zero h
theorem gt_zero {zs : List Int} {r : Nat × Nat × Bool} (h : (gtOf zs r).2.2 = false) : gtOf zs r = (ByteArray.empty, 0, false) := by
  unfold gtOf at h ⊢
  split at h
  · rename_i h1
    rw [if_pos h1]
  · simp at h
/-- The three variables that the closures share, in the blocks H, H + 1, H + 2. -/
def RI (W : World) (H : Nat) (a : Option Addr) (n cap : Nat) (st : Option Nat) : Prop :=
  ∃ p : Nat, Blk W H 22 #[.slice a n cap] ∧ Blk W (H + 1) 3 #[.int .i64 (p : Int)] ∧ Blk W (H + 2) 4 #[.bool st.isSome] ∧ ∀ q, st = some q → p = q
theorem but_two (w : World) (A B : Nat) (u v : Value) : But w ((w.setCell ⟨A, 0, none⟩ u).setCell ⟨B, 0, none⟩ v) (some A) (some B) none :=
  ⟨rfl, rfl, rfl, by simp [World.setCell], fun k _ h1 h2 _ => by
    rw [heap_setCell_other _ ⟨B, 0, none⟩ k v (fun e => h2 (by simp [e])), heap_setCell_other w ⟨A, 0, none⟩ k u (fun e => h1 (by simp [e]))]⟩
theorem but_refl (w : World) (r1 r2 r3 : Option Nat) : But w w r1 r2 r3 := ⟨rfl, rfl, rfl, Nat.le_refl _, fun _ _ _ _ _ => rfl⟩
set_option maxHeartbeats 1000000 in
theorem num_any (H : Nat) (a : Option Addr) (n cap : Nat) (zs : List Int) (st : Option Nat) (w : World) (hn : zs.length = n) (hs : n ≤ 4000000) (hcap : n ≤ cap) (hr : Rd w a zs) (hb : Byt zs) (h : RI w H a n cap st) :
    Calls Tryz.prog 148 #[.pointer (some ⟨H + 2, 0, none⟩), .pointer (some ⟨H, 0, none⟩), .pointer (some ⟨H + 1, 0, none⟩)] w fun e w' => e = .returned (.int .i64 ((rdN zs st).1 : Int)) ∧ RI w' H a n cap (rdN zs st).2 ∧ But w w' (some (H + 1)) (some (H + 2)) none := by
  obtain ⟨p, b0, b1, b2, hp⟩ := h
  have c0 := b0.cell 0
  have c1 := b1.cell 0
  have c2 := b2.cell 0
  have f1 := b1.frozen 0
  have f2 := b2.frozen 0
  simp at c0 c1 c2
  cases st with
  | none =>
    simp only [Option.isSome_none] at c2
    have hh : Hid (RI w H a n cap none) := ⟨p, b0, b1, b2, hp⟩
    clear b0 b1 b2 hp
    go_enter Tryz.func148, Tryz.ntmps148
    go_wp2
    go_ret
    exact ⟨rfl, hh.out, but_refl w _ _ _⟩
  | some q =>
    obtain rfl := hp q rfl
    simp only [Option.isSome_some] at c2
    have hG := implGetNum_any a n cap zs (p : Int) w hn hs hcap hr hb
    cases hok : (gn zs (p : Int)).2.2 with
    | false =>
      have hz : rdN zs (some p) = (0, none) := rdN_bad hok
      rw [gn_zero hok] at hG
      have HB : Hid (Blk w H 22 #[.slice a n cap] ∧ Blk w (H + 1) 3 #[.int .i64 (p : Int)] ∧ Blk w (H + 2) 4 #[.bool true]) := ⟨b0, b1, b2⟩
      have HZ : Hid _ := hz
      clear b0 b1 b2 hp hz hok
      go_enter Tryz.func148, Tryz.ntmps148
      go_wp2_with fail
      refine hG.mono ?_
      rintro e w1 ⟨rfl, hw⟩
      obtain rfl := hw.symm
      unfold gnVal
      go_wp2
      go_ret
      rw [HZ.out]
      obtain ⟨b0, b1, b2⟩ := HB.out
      exact ⟨rfl, ⟨0, (b0.other (by omega) 0 _).other (by omega) 0 _, (b1.set 0 _).other (by omega) 0 _, (b2.other (by omega) 0 _).set 0 _, fun q hq => by cases hq⟩, but_two w (H + 1) (H + 2) _ _⟩
    | true =>
      obtain ⟨x, hx⟩ : ∃ x, (gn zs (p : Int)).1 = x := ⟨_, rfl⟩
      obtain ⟨nx, hnx⟩ : ∃ x, (gn zs (p : Int)).2.1 = x := ⟨_, rfl⟩
      have hgn : gn zs (p : Int) = (x, nx, true) := by rw [← hx, ← hnx, ← hok]
      have HZ : Hid (rdN zs (some p) = (x, some nx)) := rdN_some hgn
      rw [hgn] at hG
      have HB : Hid (Blk w H 22 #[.slice a n cap] ∧ Blk w (H + 1) 3 #[.int .i64 (p : Int)] ∧ Blk w (H + 2) 4 #[.bool true]) := ⟨b0, b1, b2⟩
      clear b0 b1 b2 hp hok hx hnx hgn
      go_enter Tryz.func148, Tryz.ntmps148
      go_wp2_with fail
      refine hG.mono ?_
      rintro e w1 ⟨rfl, hw⟩
      obtain rfl := hw.symm
      unfold gnVal
      go_wp2
      go_ret
      rw [HZ.out]
      obtain ⟨b0, b1, b2⟩ := HB.out
      exact ⟨rfl, ⟨nx, (b0.other (by omega) 0 _).other (by omega) 0 _, (b1.set 0 _).other (by omega) 0 _, (b2.other (by omega) 0 _).set 0 _, fun q hq => by cases hq; rfl⟩, but_two w (H + 1) (H + 2) _ _⟩
set_option maxHeartbeats 1000000 in
theorem text_any (H : Nat) (a : Option Addr) (n cap : Nat) (zs : List Int) (st : Option Nat) (w : World) (hn : zs.length = n) (hs : n ≤ 4000000) (hcap : n ≤ cap) (hr : Rd w a zs) (hb : Byt zs) (h : RI w H a n cap st) :
    Calls Tryz.prog 150 #[.pointer (some ⟨H + 2, 0, none⟩), .pointer (some ⟨H, 0, none⟩), .pointer (some ⟨H + 1, 0, none⟩)] w fun e w' => e = .returned (.string (rdT zs st).1) ∧ RI w' H a n cap (rdT zs st).2 ∧ But w w' (some (H + 1)) (some (H + 2)) none := by
  obtain ⟨p, b0, b1, b2, hp⟩ := h
  have c0 := b0.cell 0
  have c1 := b1.cell 0
  have c2 := b2.cell 0
  have f1 := b1.frozen 0
  have f2 := b2.frozen 0
  simp at c0 c1 c2
  cases st with
  | none =>
    simp only [Option.isSome_none] at c2
    have hh : Hid (RI w H a n cap none) := ⟨p, b0, b1, b2, hp⟩
    clear b0 b1 b2 hp
    go_enter Tryz.func150, Tryz.ntmps150
    go_wp2
    go_ret
    exact ⟨rfl, hh.out, but_refl w _ _ _⟩
  | some q =>
    obtain rfl := hp q rfl
    simp only [Option.isSome_some] at c2
    have hG := implGetText_any a n cap zs (p : Int) w hn hs hcap hr hb
    cases hok : (gtOf zs (gn zs (p : Int))).2.2 with
    | false =>
      have hz : rdT zs (some p) = (ByteArray.empty, none) := rdT_bad hok
      rw [gt_zero hok] at hG
      have HB : Hid (Blk w H 22 #[.slice a n cap] ∧ Blk w (H + 1) 3 #[.int .i64 (p : Int)] ∧ Blk w (H + 2) 4 #[.bool true]) := ⟨b0, b1, b2⟩
      have HZ : Hid _ := hz
      clear b0 b1 b2 hp hz hok
      go_enter Tryz.func150, Tryz.ntmps150
      go_wp2_with fail
      refine hG.mono ?_
      rintro e w1 ⟨rfl, hw⟩
      obtain rfl := hw.symm
      unfold gtVal
      go_wp2
      go_ret
      rw [HZ.out]
      obtain ⟨b0, b1, b2⟩ := HB.out
      exact ⟨rfl, ⟨0, (b0.other (by omega) 0 _).other (by omega) 0 _, (b1.set 0 _).other (by omega) 0 _, (b2.other (by omega) 0 _).set 0 _, fun q hq => by cases hq⟩, but_two w (H + 1) (H + 2) _ _⟩
    | true =>
      obtain ⟨x, hx⟩ : ∃ x, (gtOf zs (gn zs (p : Int))).1 = x := ⟨_, rfl⟩
      obtain ⟨nx, hnx⟩ : ∃ x, (gtOf zs (gn zs (p : Int))).2.1 = x := ⟨_, rfl⟩
      have hgn : gtOf zs (gn zs (p : Int)) = (x, nx, true) := by rw [← hx, ← hnx, ← hok]
      have HZ : Hid (rdT zs (some p) = (x, some nx)) := rdT_some hgn
      rw [hgn] at hG
      have HB : Hid (Blk w H 22 #[.slice a n cap] ∧ Blk w (H + 1) 3 #[.int .i64 (p : Int)] ∧ Blk w (H + 2) 4 #[.bool true]) := ⟨b0, b1, b2⟩
      clear b0 b1 b2 hp hok hx hnx hgn
      go_enter Tryz.func150, Tryz.ntmps150
      go_wp2_with fail
      refine hG.mono ?_
      rintro e w1 ⟨rfl, hw⟩
      obtain rfl := hw.symm
      unfold gtVal
      go_wp2
      go_ret
      rw [HZ.out]
      obtain ⟨b0, b1, b2⟩ := HB.out
      exact ⟨rfl, ⟨nx, (b0.other (by omega) 0 _).other (by omega) 0 _, (b1.set 0 _).other (by omega) 0 _, (b2.other (by omega) 0 _).set 0 _, fun q hq => by cases hq; rfl⟩, but_two w (H + 1) (H + 2) _ _⟩
set_option maxHeartbeats 1000000 in
theorem atEnd_any (H : Nat) (a : Option Addr) (n cap : Nat) (st : Option Nat) (w : World) (hs : n ≤ 4000000) (h : RI w H a n cap st) :
    Calls Tryz.prog 152 #[.pointer (some ⟨H + 2, 0, none⟩), .pointer (some ⟨H + 1, 0, none⟩), .pointer (some ⟨H, 0, none⟩)] w fun e w' => e = .returned (.bool (decide (st = some n))) ∧ w' = w := by
  obtain ⟨p, b0, b1, b2, hp⟩ := h
  have c0 := b0.cell 0
  have c1 := b1.cell 0
  have c2 := b2.cell 0
  simp at c0 c1 c2
  clear b0 b1 b2
  cases st with
  | none =>
    simp only [Option.isSome_none] at c2
    go_enter Tryz.func152, Tryz.ntmps152
    go_wp2
    go_ret
    exact ⟨rfl, rfl⟩
  | some q =>
    obtain rfl := hp q rfl
    simp only [Option.isSome_some] at c2
    by_cases he : p = n
    · subst he
      have he' : ((p : Int) == (p : Int)) = true := by simp
      go_enter Tryz.func152, Tryz.ntmps152
      go_wp2
      go_ret
      exact ⟨ret_bool (by simp), rfl⟩
    · have he' : ((p : Int) == (n : Int)) = false := by simp; omega
      have hf : Hid (decide (some p = some n) = false) := by show _ = _; simp [he]
      clear he
      go_enter Tryz.func152, Tryz.ntmps152
      go_wp2
      go_ret
      exact ⟨ret_bool hf.out.symm, rfl⟩
set_option maxHeartbeats 1000000 in
theorem readingOf_any (a : Option Addr) (n cap : Nat) (w : World) :
    Calls Tryz.prog 139 #[.slice a n cap] w fun e w' => e = .returned (.tuple #[.func (.func 148) #[] #[.pointer (some ⟨w.heap.size + 2, 0, none⟩), .pointer (some ⟨w.heap.size, 0, none⟩), .pointer (some ⟨w.heap.size + 1, 0, none⟩)], .func (.func 150) #[] #[.pointer (some ⟨w.heap.size + 2, 0, none⟩), .pointer (some ⟨w.heap.size, 0, none⟩), .pointer (some ⟨w.heap.size + 1, 0, none⟩)], .func (.func 152) #[] #[.pointer (some ⟨w.heap.size + 2, 0, none⟩), .pointer (some ⟨w.heap.size + 1, 0, none⟩), .pointer (some ⟨w.heap.size, 0, none⟩)]]) ∧ RI w' w.heap.size a n cap (some 0) ∧ Below w.heap.size w w' := by
  have hmf : ∀ (fn : Fn) (first cap : Array Value) (w : World), (Instr.makeFunc fn first cap).run Tryz.prog w = .ok (.func fn first cap) w := fun _ _ _ _ => rfl
  go_enter Tryz.func139, Tryz.ntmps139
  go_wp2
  go_ret3
  refine ⟨rfl, ⟨0, ?_, ?_, ?_, fun q hq => by cases hq; rfl⟩, ?_⟩
  · exact ((Blk.new w 22 _).alloc _).alloc _
  · exact (Blk.newAt (by simp)).alloc _
  · exact Blk.newAt (by simp)
  · exact (((Below.refl _ w).alloc (Nat.le_refl _) _).alloc (by simp) _).alloc (by simp; omega) _
end

section
open Go.RowKit
theorem RI.kp {W W' : World} {H : Nat} {a : Option Addr} {n cap : Nat} {st : Option Nat} {ts : List TypeId} (h : RI W H a n cap st) (k : KpT W W' ts) (h1 : 22 ∈ ts) (h2 : 3 ∈ ts) (h3 : 4 ∈ ts) : RI W' H a n cap st := by
  obtain ⟨p, b0, b1, b2, hp⟩ := h
  exact ⟨p, b0.kp k h1, b1.kp k h2, b2.kp k h3, hp⟩
/-- A text turned into bytes: a new block. -/
theorem conv_str (w : World) (s : ByteArray) : ∃ c W, (convert 9 22 (.string s)).run Tryz.prog w = .ok (.slice (some ⟨w.heap.size, 0, none⟩) s.size c) W ∧ OwnB W w.heap.size s.size (strZ s) ∧ Below w.heap.size w W := by
  refine ⟨_, _, Lib.run_convert_string_bytes w 9 22 5 s Tryz.underlying9 Tryz.underlying22 Tryz.underlying5, ?_, ?_⟩
  · have hsz : (Lib.bytesCells w 5 s).size = s.size + (grownCap w s.size 0 5 - s.size) := by simp [Lib.bytesCells]
    refine ⟨strZ_len s, _, _, Lib.bytesWorld_at_new w 5 s, by omega, fun i hi => ?_, by show s.size ≤ (Lib.bytesCells w 5 s).size; omega⟩
    have := Lib.bytesWorld_cell w 5 s i hi
    rw [cell_of_row _ _ i _ 5 _ (Lib.bytesWorld_at_new w 5 s)] at this
    rw [this]
    have hl : i < s.data.toList.length := by rw [Array.length_toList]; exact hi
    simp only [strZ, List.getD_eq_getElem?_getD, List.getElem?_map, List.getElem?_eq_getElem hl, Option.map_some, Option.getD_some]
  · exact ⟨rfl, rfl, rfl, by rw [Lib.bytesWorld_size]; omega, fun k hk => Lib.bytesWorld_at_old w 5 s k hk⟩
end

section
open Go.RowKit
theorem strZ_byt' (s : ByteArray) : Byt (strZ s) := by
  intro z hz
  simp only [strZ, List.mem_map] at hz
  obtain ⟨b, _, rfl⟩ := hz
  have := b.toNat_lt
  omega
theorem KpT.trans {W W1 W' : World} {ts : List TypeId} (h : KpT W W1 ts) (k : KpT W1 W' ts) : KpT W W' ts := fun B cur t fr hB ht => by
  have e := h B cur t fr hB ht
  rw [k B cur t fr (e.trans hB) ht, e]
end

section
open Go.RowKit
theorem below_but {B : Nat} {w0 W W' : World} {r1 r2 : Nat} (h : Below B w0 W) (g : But W W' (some r1) (some r2) none) (hB : B ≤ w0.heap.size) (h1 : B ≤ r1) (h2 : B ≤ r2) : Below B w0 W' := by
  have hs := h.size
  refine ⟨by rw [g.os, h.os], by rw [g.tape, h.tape], by rw [g.output, h.output], Nat.le_trans h.size g.size, fun k hk => ?_⟩
  rw [g.block k (by omega) (by simp; omega) (by simp; omega) (by simp)]
  exact h.block k hk
theorem RI.keep {W W' : World} {H : Nat} {a : Option Addr} {n cap : Nat} {st : Option Nat} (h : RI W H a n cap st) (hb : Below W.heap.size W W') : RI W' H a n cap st := h.kp (KpT.below hb [22, 3, 4]) (by decide) (by decide) (by decide)
theorem RI.app {W W' : World} {H B n' s : Nat} {a : Option Addr} {n cap : Nat} {st : Option Nat} {v : Value} {e : TypeId} {xs : List Value} (h : RI W H a n cap st) (o : Obj) (hg : (W.alloc o).grownBy W' v.ownBlock) (hr : W.ownsRow B e s v n' xs) (he : e ∉ [22, 3, 4]) : RI W' H a n cap st :=
  (h.keep ((Below.refl W.heap.size W).alloc (Nat.le_refl _) o)).kp (KpT.row hg (World.ownsRow.alloc hr o) he) (by decide) (by decide) (by decide)
end
end Go.Proofs.YtoeeblmnogeonaaGreatDoor
