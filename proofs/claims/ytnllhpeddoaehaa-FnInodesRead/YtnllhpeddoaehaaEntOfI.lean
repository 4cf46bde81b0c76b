/-
  What the program's EntOf answers.
-/
import Derived.Test.YtnllhpeddoaehaaEntOf
namespace Go.Proofs.Ytnllhpeddoaehaa
open Go.RowKit

set_option maxHeartbeats 1600000 in
theorem entOfI (D : InoD) (a1 a2 a3 : Option Addr) (c1 c2 c3 : Nat) (nm : ByteArray) (w : World) (h2 : D.ents.length ≤ 1048576) (hr : InoRd w D a1 a2 a3) :
    Calls Try.prog 19 #[inoV D a1 c1 a2 c2 a3 c3, .string nm] w fun e w' => e = .returned (.int .i64 (entOf nm D.ents)) ∧ Below w.heap.size w w' := by
  obtain ⟨ino, kind, links, data, ents, attrs⟩ := D
  obtain ⟨n1, hn1⟩ : ∃ n, data.length = n := ⟨_, rfl⟩
  obtain ⟨n2, hn2⟩ : ∃ n, ents.length = n := ⟨_, rfl⟩
  obtain ⟨n3, hn3⟩ : ∃ n, attrs.length = n := ⟨_, rfl⟩
  dsimp only at h2
  unfold inoV
  dsimp only
  rw [hn2] at h2
  simp only [hn1, hn2, hn3]
  have k2 : Hid (ents.length = n2) := hn2
  clear hn1 hn2 hn3
  obtain ⟨_, _, r3, _⟩ := hr
  dsimp only at r3
  have B0 : Below w.heap.size w (w.alloc (.cells #[.int .i64 ino, .int .i64 kind, .int .i64 links, .slice a1 n1 c1, .slice a2 n2 c2, .slice a3 n3 c3] 27)) := (Below.refl _ w).alloc (Nat.le_refl _) _
  have HB : Hid _ := B0
  by_cases h0 : n2 = 0
  · subst h0
    obtain rfl : ents = [] := List.length_eq_zero_iff.1 k2.out
    go_enter Try.func19, Try.ntmps19
    go_wp2
    refine wp_loop_rounds 1 ?_; rw [rounds_succ]
    go_wp2
    go_ret
    exact ⟨rfl, HB.out⟩
  · have hne : eP ents ≠ [] := by intro h; have := congrArg List.length h; rw [eP_length, k2.out] at this; simp at this; omega
    obtain ⟨b, off, rfl, hlt, hc⟩ := r3.lt hne
    have HC : Hid _ := hc
    clear r3 hne hc B0
    go_enter Try.func19, Try.ntmps19
    go_wp2
    go_loopw [10] (fun i wr => ∃ k : Nat, k ≤ n2 ∧ i = .int .i64 k ∧ Below w.heap.size w wr ∧ Hid (entOf nm ents = entOf nm (ents.drop k))) (fun i _ => n2 - (intOf i).toNat)
    case atStart => exact ⟨0, Nat.zero_le _, rfl, HB.out, rfl⟩
    case round =>
      obtain ⟨k, hk, rfl, hB, he⟩ := hrel
      by_cases hkn : k < n2
      · have hkl : k < ents.length := by rw [k2.out]; exact hkn
        have hki : (k : Int) < (n2 : Int) := by omega
        have hx := HC.out k (by rw [eP_length]; exact hkl)
        rw [eP_at ents k hkl] at hx
        have hd := entOf_drop nm ents k hkl
        obtain ⟨z, hz⟩ : ∃ z, ents[k].1 = z := ⟨_, rfl⟩
        obtain ⟨u, hu⟩ : ∃ u, ents[k].2 = u := ⟨_, rfl⟩
        rw [hz, hu] at hx hd
        have x1 : wr.cell? ⟨b, off + k * 2, none⟩ = _ := (hB.cell (by exact hlt)).trans hx.1
        have x2 : wr.cell? ⟨b, off + k * 2 + 1, none⟩ = _ := (hB.cell (by exact hlt)).trans hx.2
        dsimp only at x1 x2
        have hbs := hB.size
        by_cases hzn : z = nm
        · have hend : Hid (entOf nm ents = u) := by show _ = _; rw [he.out, hd, if_pos hzn]
          subst hzn
          clear hd hz hu hkl he hx
          go_wp2
          go_ret
          exact ⟨by rw [hend.out]; rfl, hB.alloc hbs _⟩
        · have hb := bytes_ne hzn
          have hnx : Hid (entOf nm ents = entOf nm (ents.drop (k + 1))) := by show _ = _; rw [he.out, hd, if_neg hzn]
          clear hd hz hu hkl he hx
          go_wp2
          go_roundw
          case rel => exact ⟨k + 1, by omega, by go_num, hB.alloc hbs _, hnx⟩
          case measure => simp [intOf]; omega
      · have hki : ¬ (k : Int) < (n2 : Int) := by omega
        have hend : Hid (entOf nm ents = 0) := by show _ = _; rw [he.out, List.drop_of_length_le (by rw [k2.out]; omega)]; rfl
        go_wp2
        go_ret
        exact ⟨by rw [hend.out]; rfl, hB⟩
end Go.Proofs.Ytnllhpeddoaehaa
