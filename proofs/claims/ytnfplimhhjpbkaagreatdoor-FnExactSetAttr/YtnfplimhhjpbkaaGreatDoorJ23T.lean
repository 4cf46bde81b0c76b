/-
  Joined: Join, Parent, EntOf.
-/
import Derived.Test.YtnfplimhhjpbkaaGreatDoorJ22T
namespace Go.Proofs.YtnfplimhhjpbkaaGreatDoor
section
open Go.RowKit
def strB (l : Str) : ByteArray := ⟨l.toArray⟩
end

section
open Go.RowKit
theorem OwnS.cap {w : World} {g n cap : Nat} {zs : List ByteArray} (h : OwnS w g n cap zs) : n ≤ cap := by
  rcases h.2 with ⟨h', _⟩ | ⟨g', cap', cur, h', _, _, hle, _⟩
  · simp at h'
  · simp only [Value.slice.injEq, Option.some.injEq, Addr.mk.injEq, and_true, true_and] at h'
    omega
end

section
open Go.RowKit
/-- The number that the first entry of this name leads to; 0. -/
def entOf (nm : ByteArray) : List (ByteArray × Int) → Int
  | [] => 0
  | q :: r => if q.1 = nm then q.2 else entOf nm r
theorem entOf_drop (nm : ByteArray) (es : List (ByteArray × Int)) (k : Nat) (h : k < es.length) : entOf nm (es.drop k) = if es[k].1 = nm then es[k].2 else entOf nm (es.drop (k + 1)) := by
  rw [List.drop_eq_getElem_cons h, entOf]
theorem bytes_ne {z y : ByteArray} (h : z ≠ y) : (z.toList == y.toList) = false := by
  rw [beq_eq_false_iff_ne]
  intro e
  rw [Lib.toList_data, Lib.toList_data] at e
  apply h
  rw [← Lib.mk_data z, ← Lib.mk_data y, e]
set_option maxHeartbeats 1600000 in
theorem entOfS (D : InoD) (a1 a2 a3 : Option Addr) (c1 c2 c3 : Nat) (nm : ByteArray) (w : World) (h2 : D.ents.length ≤ 1048576) (hr : InoRd w D a1 a2 a3) :
    Calls Tryz.prog 151 #[inoV D a1 c1 a2 c2 a3 c3, .string nm] w fun e w' => e = .returned (.int .i64 (entOf nm D.ents)) ∧ Below w.heap.size w w' := by
  obtain ⟨ino, kind, links, data, ents, attrs⟩ := D
  obtain ⟨n1, hn1⟩ : ∃ n, data.length = n := ⟨_, rfl⟩
  obtain ⟨n2, hn2⟩ : ∃ n, ents.length = n := ⟨_, rfl⟩
  obtain ⟨n3, hn3⟩ : ∃ n, attrs.length = n := ⟨_, rfl⟩
  dsimp only at h2
  unfold inoV
  dsimp only
  rw [hn2] at h2
  simp only [hn1, hn2, hn3]
  have k2 : Hid (ents.length = n2) := hn2
  clear hn1 hn2 hn3
  obtain ⟨_, _, r3, _⟩ := hr
  dsimp only at r3
  have z0 := Blk.new w 66 #[.int .i64 ino, .int .i64 kind, .int .i64 links, .slice a1 n1 c1, .slice a2 n2 c2, .slice a3 n3 c3]
  have B0 : Below w.heap.size w (w.alloc (.cells #[.int .i64 ino, .int .i64 kind, .int .i64 links, .slice a1 n1 c1, .slice a2 n2 c2, .slice a3 n3 c3] 66)) := (Below.refl _ w).alloc (Nat.le_refl _) _
  have HB : Hid _ := B0
  have r3' := r3.keep B0
  by_cases h0 : n2 = 0
  · subst h0
    obtain rfl : ents = [] := List.length_eq_zero_iff.1 k2.out
    go_enter Tryz.func151, Tryz.ntmps151
    go_wp2
    refine wp_loop_rounds 1 ?_; rw [rounds_succ]
    go_wp2
    go_ret
    exact ⟨rfl, HB.out⟩
  · have hne : eP ents ≠ [] := by intro h; have := congrArg List.length h; rw [eP_length, k2.out] at this; simp at this; omega
    obtain ⟨b, off, rfl, hlt, hc⟩ := r3'.lt hne
    have HC : Hid _ := hc
    clear r3 r3' hne hc z0 B0
    go_enter Tryz.func151, Tryz.ntmps151
    go_wp2
    go_loop [5] (fun i => ∃ k : Nat, k ≤ n2 ∧ i = .int .i64 k ∧ Hid (entOf nm ents = entOf nm (ents.drop k))) (fun i => n2 - (intOf i).toNat)
    case atStart => exact ⟨0, Nat.zero_le _, rfl, rfl⟩
    case round =>
      obtain ⟨k, hk, rfl, he⟩ := hrel
      by_cases hkn : k < n2
      · have hkl : k < ents.length := by rw [k2.out]; exact hkn
        have hki : (k : Int) < (n2 : Int) := by omega
        have hx := HC.out k (by rw [eP_length]; exact hkl)
        rw [eP_at ents k hkl] at hx
        have hd := entOf_drop nm ents k hkl
        obtain ⟨z, hz⟩ : ∃ z, ents[k].1 = z := ⟨_, rfl⟩
        obtain ⟨u, hu⟩ : ∃ u, ents[k].2 = u := ⟨_, rfl⟩
        rw [hz, hu] at hx hd
        obtain ⟨x1, x2⟩ := hx
        dsimp only at x1 x2
        by_cases hzn : z = nm
        · have hend : Hid (entOf nm ents = u) := by show _ = _; rw [he.out, hd, if_pos hzn]
          subst hzn
          clear hd hz hu hkl he
          go_wp2
          go_ret
          exact ⟨by rw [hend.out]; rfl, HB.out⟩
        · have hb := bytes_ne hzn
          have hnx : Hid (entOf nm ents = entOf nm (ents.drop (k + 1))) := by show _ = _; rw [he.out, hd, if_neg hzn]
          clear hd hz hu hkl he
          go_wp2
          go_round
          case rel => exact ⟨k + 1, by omega, by go_num, hnx⟩
          case measure => simp [intOf]; omega
      · have hki : ¬ (k : Int) < (n2 : Int) := by omega
        have hend : Hid (entOf nm ents = 0) := by show _ = _; rw [he.out, List.drop_of_length_le (by rw [k2.out]; omega)]; rfl
        go_wp2
        go_ret
        exact ⟨by rw [hend.out]; rfl, HB.out⟩
end
end Go.Proofs.YtnfplimhhjpbkaaGreatDoor
