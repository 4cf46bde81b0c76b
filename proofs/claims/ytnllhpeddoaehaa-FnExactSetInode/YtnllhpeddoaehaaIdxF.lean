/-
  What slices.IndexFunc answers over inodes: the place of the first of a greater number.
-/
import Derived.Test.YtnllhpeddoaehaaSetM
namespace Go.Proofs.Ytnllhpeddoaehaa
open Go.RowKit

/-- The place, or -1. -/
def idxN (rs : List InoR) (x : Int) : Int := if placeOf rs x < rs.length then (placeOf rs x : Int) else -1

set_option maxHeartbeats 1600000 in
theorem clos_any (D : InoD) (a1 a2 a3 : Option Addr) (c1 c2 c3 : Nat) (x : Int) (X : Nat) (w : World) (hX : w.cell? ⟨X, 0, none⟩ = some (.int .i64 x)) :
    Calls Try.prog 81 #[.agg #[.int .i64 D.ino, .int .i64 D.kind, .int .i64 D.links, .slice a1 D.data.length c1, .slice a2 D.ents.length c2, .slice a3 D.attrs.length c3], .pointer (some ⟨X, 0, none⟩)] w fun e w' => e = .returned (.bool (decide (x < D.ino))) ∧ Below w.heap.size w w' := by
  have hlt := World.block_lt_of_cell? w _ hX
  have b0 : Below w.heap.size w (w.alloc (.cells #[.int .i64 D.ino, .int .i64 D.kind, .int .i64 D.links, .slice a1 D.data.length c1, .slice a2 D.ents.length c2, .slice a3 D.attrs.length c3] 27)) := (Below.refl _ w).alloc (Nat.le_refl _) _
  have hX' := (b0.cell (p := ⟨X, 0, none⟩) hlt).trans hX
  have z0 := (Blk.new w 27 #[.int .i64 D.ino, .int .i64 D.kind, .int .i64 D.links, .slice a1 D.data.length c1, .slice a2 D.ents.length c2, .slice a3 D.attrs.length c3]).cell 0
  simp at z0
  have HB : Hid _ := b0
  clear hX b0
  by_cases hx : x < D.ino
  · have hd : decide (x < D.ino) = true := by simpa using hx
    rw [hd]
    go_enter Try.func81, Try.ntmps81
    go_wp2
    go_ret
    exact ⟨by simp_all, HB.out⟩
  · have hd : decide (x < D.ino) = false := by simpa using hx
    rw [hd]
    go_enter Try.func81, Try.ntmps81
    go_wp2
    go_ret
    exact ⟨by simp_all, HB.out⟩

set_option maxRecDepth 100000 in
set_option maxHeartbeats 2000000 in
theorem indexFunc_any (a : Option Addr) (n cap : Nat) (rs : List InoR) (x : Int) (X : Nat) (w : World) (hn : rs.length = n) (hs : n ≤ 4000000) (hr : RdI w a rs) (hX : w.cell? ⟨X, 0, none⟩ = some (.int .i64 x)) :
    Calls Try.prog 80 #[.slice a n cap, .func (.func 81) #[] #[.pointer (some ⟨X, 0, none⟩)]] w fun e w' => e = .returned (.int .i64 (idxN rs x)) ∧ Below w.heap.size w w' := by
  have hXlt := World.block_lt_of_cell? w _ hX
  have HR : Hid _ := hr
  have HX : Hid _ := hX
  have hn' : Hid (rs.length = n) := hn
  have hY : Hid (∀ (k : Nat) (r : InoR), (∀ (j : Nat) (q : InoR), j < k → rs[j]? = some q → q.D.ino ≤ x) → rs[k]? = some r → x < r.D.ino → (k : Int) = idxN rs x) := by
    intro k r h hk he
    unfold idxN
    rw [placeOf_is hk he (fun j q hj hq => Int.not_lt.2 (h j q hj hq)), if_pos (List.getElem?_eq_some_iff.1 hk).1]
  have hE : Hid ((∀ (j : Nat) (q : InoR), j < n → rs[j]? = some q → q.D.ino ≤ x) → (-1 : Int) = idxN rs x) := by
    intro h
    unfold idxN
    rw [placeOf_end (fun j q hq => Int.not_lt.2 (h j q (by rw [← hn]; exact (List.getElem?_eq_some_iff.1 hq).1) hq)), if_neg (by omega)]
  generalize idxN rs x = R at hY hE ⊢
  clear hr hn hX
  go_enter Try.func80, Try.ntmps80
  go_wp2
  go_loopw [8] (fun i wr => ∃ k : Nat, k ≤ n ∧ i = .int .i64 k ∧ Hid (∀ (j : Nat) (q : InoR), j < k → rs[j]? = some q → q.D.ino ≤ x) ∧ Below w.heap.size w wr) (fun i _ => n - (intOf i).toNat)
  case atStart => exact ⟨0, Nat.zero_le _, rfl, fun j q hj => by omega, Below.refl _ _⟩
  case round =>
    obtain ⟨k, hk, rfl, hall, hB⟩ := hrel
    by_cases hkn : k < n
    · have hki : (k : Int) < (n : Int) := by omega
      obtain ⟨r, hrk⟩ : ∃ r, rs[k]? = some r := ⟨_, List.getElem?_eq_getElem (by rw [hn'.out]; exact hkn)⟩
      obtain ⟨b, off, rfl, hlt, hc⟩ := (RdI.keep HR.out hB).lt (by intro h; have := hn'.out; rw [h] at this; simp at this; omega)
      obtain ⟨⟨x0, x1, x2, x3, x4, x5⟩, _⟩ := hc k r hrk
      have hcc := clos_any r.D r.a1 r.a2 r.a3 r.c1 r.c2 r.c3 x X wr ((hB.cell (p := ⟨X, 0, none⟩) hXlt).trans HX.out)
      have hyes : Hid (x < r.D.ino → (k : Int) = R) := fun he => hY.out k r hall.out hrk he
      have hno : Hid (¬ x < r.D.ino → ∀ (j : Nat) (q : InoR), j < k + 1 → rs[j]? = some q → q.D.ino ≤ x) := by
        intro he j q hj hq
        rcases (show j < k ∨ j = k by omega) with h | rfl
        · exact hall.out j q h hq
        · rw [hrk] at hq
          simp at hq
          rw [← hq]
          exact Int.not_lt.1 he
      clear hc hrk hall hY hE HR HX
      by_cases he : x < r.D.ino
      · have hd : decide (x < r.D.ino) = true := by simpa using he
        rw [hd] at hcc
        have hend : Hid ((k : Int) = R) := hyes.out he
        clear hyes hno hd he
        go_wp2_with (go_at_call 81; (with_reducible refine hcc.mono ?_); rintro e w1 ⟨rfl, b1⟩)
        go_ret
        exact ⟨ret_int hend.out, hB.trans (b1.mono hB.size)⟩
      · have hd : decide (x < r.D.ino) = false := by simpa using he
        rw [hd] at hcc
        have hnx : Hid _ := hno.out he
        clear hyes hno hd he
        go_wp2_with (go_at_call 81; (with_reducible refine hcc.mono ?_); rintro e w1 ⟨rfl, b1⟩)
        go_roundw
        case rel => exact ⟨k + 1, by omega, by go_num, hnx, hB.trans (b1.mono hB.size)⟩
        case measure => simp [intOf]; omega
    · have hki : ¬ (k : Int) < (n : Int) := by omega
      have hend : Hid ((-1 : Int) = R) := hE.out (fun j q hj hq => hall.out j q (by omega) hq)
      clear hY hE HR hall HX
      go_wp2
      go_ret
      exact ⟨ret_int hend.out, hB⟩
end Go.Proofs.Ytnllhpeddoaehaa
