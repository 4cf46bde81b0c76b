/-
  How big an inode of the laws is: szInode: below 0, or all its lists and texts are small.
-/
import Derived.Test.YtnadeelnjhollaaInoOpenU
namespace Go.Proofs.Ytnadeelnjhollaa
open Go.RowKit
/-- What the measuring functions answer: below 0, or what is left, and P. -/
def SzP (P : Prop) (e : Ending) : Prop := e = .returned (.int .i64 (-1)) ∨ ∃ x : Nat, x ≤ 1048576 ∧ e = .returned (.int .i64 x) ∧ P
set_option maxHeartbeats 400000 in
theorem szByteS_any (a : Option Addr) (n cap x : Nat) (w : World) (hn : n ≤ maxLen) (hx : x ≤ 1048576) :
    Calls Try.prog 50 #[.slice a n cap, .int .i64 x] w fun e w' => SzP (n ≤ 1048576) e ∧ Below w.heap.size w w' := by
  unfold maxLen at hn
  by_cases h : x < n
  · have h1 : ((x : Int) - (n : Int)) < 0 := by omega
    go_enter Try.func50, Try.ntmps50
    go_wp2
    go_ret
    exact ⟨.inl rfl, Below.refl _ _⟩
  · have h1 : ¬ ((x : Int) - (n : Int)) < 0 := by omega
    go_enter Try.func50, Try.ntmps50
    go_wp2
    go_ret
    exact ⟨.inr ⟨x - n, by omega, ret_int (by omega), by omega⟩, Below.refl _ _⟩
set_option maxHeartbeats 400000 in
theorem szEnt_any (z : ByteArray) (y : Int) (x : Nat) (w : World) (hz : z.size ≤ maxLen) (hx : x ≤ 1048576) :
    Calls Try.prog 71 #[.agg #[.string z, .int .i64 y], .int .i64 x] w fun e w' => SzP (z.size ≤ 1048576) e ∧ Below w.heap.size w w' := by
  unfold maxLen at hz
  by_cases h : x < z.size
  · have h1 : ((x : Int) - (z.size : Int)) < 0 := by omega
    go_enter Try.func71, Try.ntmps71
    go_wp2
    go_ret
    exact ⟨.inl rfl, (Below.refl _ w).alloc (Nat.le_refl _) _⟩
  · have h1 : ¬ ((x : Int) - (z.size : Int)) < 0 := by omega
    go_enter Try.func71, Try.ntmps71
    go_wp2
    go_ret
    exact ⟨.inr ⟨x - z.size, by omega, ret_int (by omega), by omega⟩, (Below.refl _ w).alloc (Nat.le_refl _) _⟩
set_option maxHeartbeats 400000 in
theorem szAttr_any (z y : ByteArray) (x : Nat) (w : World) (hz : z.size ≤ maxLen ∧ y.size ≤ maxLen) (hx : x ≤ 1048576) :
    Calls Try.prog 72 #[.agg #[.string z, .string y], .int .i64 x] w fun e w' => SzP (z.size ≤ 1048576 ∧ y.size ≤ 1048576) e ∧ Below w.heap.size w w' := by
  unfold maxLen at hz
  obtain ⟨hz, hy⟩ := hz
  by_cases h : x < z.size
  · have h1 : ((x : Int) - (z.size : Int)) < 0 := by omega
    go_enter Try.func72, Try.ntmps72
    go_wp2
    go_ret
    exact ⟨.inl rfl, (Below.refl _ w).alloc (Nat.le_refl _) _⟩
  · have h1 : ¬ ((x : Int) - (z.size : Int)) < 0 := by omega
    by_cases h' : x - z.size < y.size
    · have h2 : ((x : Int) - (z.size : Int) - (y.size : Int)) < 0 := by omega
      go_enter Try.func72, Try.ntmps72
      go_wp2
      go_ret
      exact ⟨.inl rfl, (Below.refl _ w).alloc (Nat.le_refl _) _⟩
    · have h2 : ¬ ((x : Int) - (z.size : Int) - (y.size : Int)) < 0 := by omega
      go_enter Try.func72, Try.ntmps72
      go_wp2
      go_ret
      exact ⟨.inr ⟨x - z.size - y.size, by omega, ret_int (by omega), by omega, by omega⟩, (Below.refl _ w).alloc (Nat.le_refl _) _⟩
set_option maxHeartbeats 800000 in
theorem szEntS_any (a : Option Addr) (n cap x : Nat) (es : List (ByteArray × Int)) (w : World) (hn : es.length = n) (hm : n ≤ maxLen) (hx : x ≤ 1048576) (hsz : ∀ q ∈ es, q.1.size ≤ maxLen ∧ (Lit.int .i64 q.2).wf = true) (hr : RdP w a (eP es)) :
    Calls Try.prog 51 #[.slice a n cap, .int .i64 x] w fun e w' => SzP (n ≤ 1048576 ∧ ∀ q ∈ es, q.1.size ≤ 1048576) e ∧ Below w.heap.size w w' := by
  unfold maxLen at hm
  by_cases h : x < n
  · have h1 : ((x : Int) - (n : Int)) < 0 := by omega
    go_enter Try.func51, Try.ntmps51
    go_wp2
    go_ret
    exact ⟨.inl rfl, Below.refl _ _⟩
  · have h1 : ¬ ((x : Int) - (n : Int)) < 0 := by omega
    by_cases h0 : n = 0
    · subst h0
      obtain rfl : es = [] := List.length_eq_zero_iff.1 hn
      go_enter Try.func51, Try.ntmps51
      go_wp2
      refine wp_loop_rounds 1 ?_; rw [rounds_succ]
      go_wp2
      go_ret
      exact ⟨.inr ⟨x, hx, ret_int (by simp), by omega, by simp⟩, Below.refl _ _⟩
    · have hne : eP es ≠ [] := by intro h; have := congrArg List.length h; rw [eP_length] at this; simp at this; subst this; simp at hn; omega
      obtain ⟨b, off, rfl, hlt, hc⟩ := hr.lt hne
      clear hr hne
      have hn' : Hid (es.length = n) := hn
      clear hn
      go_enter Try.func51, Try.ntmps51
      go_wp2
      go_loopw [1, 5] (fun l i wr => ∃ k y : Nat, k ≤ n ∧ i = .int .i64 k ∧ l = .int .i64 y ∧ y ≤ 1048576 ∧ Below w.heap.size w wr ∧ Hid (∀ q ∈ es.take k, q.1.size ≤ 1048576)) (fun _ i _ => n - (intOf i).toNat)
      case atStart => exact ⟨0, x - n, Nat.zero_le _, rfl, by go_num, by omega, Below.refl _ _, fun q hq => by simp at hq⟩
      case round =>
        obtain ⟨k, y, hk, rfl, rfl, hy, hB, hall⟩ := hrel
        by_cases hkn : k < n
        · have hkl : k < es.length := by rw [hn'.out]; exact hkn
          have hki : (k : Int) < (n : Int) := by omega
          have hxx := hc k (by rw [eP_length]; exact hkl)
          rw [eP_at es k hkl] at hxx
          have hsk := (hsz es[k] (List.getElem_mem hkl)).1
          have hnext : Hid (es[k].1.size ≤ 1048576 → ∀ q ∈ es.take (k + 1), q.1.size ≤ 1048576) := by
            intro h q hq
            rw [List.take_succ_eq_append_getElem hkl] at hq
            simp only [List.mem_append, List.mem_cons, List.not_mem_nil, or_false] at hq
            rcases hq with hq | rfl
            · exact hall.out q hq
            · exact h
          obtain ⟨z, hz⟩ : ∃ z, es[k].1 = z := ⟨_, rfl⟩
          obtain ⟨u, hu⟩ : ∃ u, es[k].2 = u := ⟨_, rfl⟩
          rw [hz, hu] at hxx
          rw [hz] at hsk hnext
          have x1 : wr.cell? ⟨b, off + k * 2, none⟩ = _ := (hB.cell (by exact hlt)).trans hxx.1
          have x2 : wr.cell? ⟨b, off + k * 2 + 1, none⟩ = _ := (hB.cell (by exact hlt)).trans hxx.2
          dsimp only at x1 x2
          have hwz := hB.size
          clear hxx hz hu hkl hall
          go_wp2_with fail
          refine (szEnt_any z u y wr hsk hy).mono ?_
          rintro e w1 ⟨(rfl | ⟨v, hv, rfl, hzz⟩), hb1⟩
          · go_wp2
            go_ret
            exact ⟨.inl rfl, hB.trans (hb1.mono hwz)⟩
          · have hnx : Hid _ := hnext.out hzz
            clear x1 x2
            go_wp2
            go_roundw
            case rel => exact ⟨k + 1, v, by omega, by go_num, rfl, hv, hB.trans (hb1.mono hwz), hnx⟩
            case measure => simp [intOf]; omega
        · have hki : ¬ (k : Int) < (n : Int) := by omega
          go_wp2
          go_ret
          refine ⟨.inr ⟨y, hy, rfl, by omega, ?_⟩, hB⟩
          have := hall.out
          rw [List.take_of_length_le (by rw [hn'.out]; omega)] at this
          exact fun a b h => this (a, b) h
set_option maxHeartbeats 800000 in
theorem szAttrS_any (a : Option Addr) (n cap x : Nat) (es : List (ByteArray × ByteArray)) (w : World) (hn : es.length = n) (hm : n ≤ maxLen) (hx : x ≤ 1048576) (hsz : ∀ q ∈ es, q.1.size ≤ maxLen ∧ q.2.size ≤ maxLen) (hr : RdP w a (aP es)) :
    Calls Try.prog 52 #[.slice a n cap, .int .i64 x] w fun e w' => SzP (n ≤ 1048576 ∧ ∀ q ∈ es, q.1.size ≤ 1048576 ∧ q.2.size ≤ 1048576) e ∧ Below w.heap.size w w' := by
  unfold maxLen at hm
  by_cases h : x < n
  · have h1 : ((x : Int) - (n : Int)) < 0 := by omega
    go_enter Try.func52, Try.ntmps52
    go_wp2
    go_ret
    exact ⟨.inl rfl, Below.refl _ _⟩
  · have h1 : ¬ ((x : Int) - (n : Int)) < 0 := by omega
    by_cases h0 : n = 0
    · subst h0
      obtain rfl : es = [] := List.length_eq_zero_iff.1 hn
      go_enter Try.func52, Try.ntmps52
      go_wp2
      refine wp_loop_rounds 1 ?_; rw [rounds_succ]
      go_wp2
      go_ret
      exact ⟨.inr ⟨x, hx, ret_int (by simp), by omega, by simp⟩, Below.refl _ _⟩
    · have hne : aP es ≠ [] := by intro h; have := congrArg List.length h; rw [aP_length] at this; simp at this; subst this; simp at hn; omega
      obtain ⟨b, off, rfl, hlt, hc⟩ := hr.lt hne
      clear hr hne
      have hn' : Hid (es.length = n) := hn
      clear hn
      go_enter Try.func52, Try.ntmps52
      go_wp2
      go_loopw [1, 5] (fun l i wr => ∃ k y : Nat, k ≤ n ∧ i = .int .i64 k ∧ l = .int .i64 y ∧ y ≤ 1048576 ∧ Below w.heap.size w wr ∧ Hid (∀ q ∈ es.take k, q.1.size ≤ 1048576 ∧ q.2.size ≤ 1048576)) (fun _ i _ => n - (intOf i).toNat)
      case atStart => exact ⟨0, x - n, Nat.zero_le _, rfl, by go_num, by omega, Below.refl _ _, fun q hq => by simp at hq⟩
      case round =>
        obtain ⟨k, y, hk, rfl, rfl, hy, hB, hall⟩ := hrel
        by_cases hkn : k < n
        · have hkl : k < es.length := by rw [hn'.out]; exact hkn
          have hki : (k : Int) < (n : Int) := by omega
          have hxx := hc k (by rw [aP_length]; exact hkl)
          rw [aP_at es k hkl] at hxx
          have hsk := hsz es[k] (List.getElem_mem hkl)
          have hnext : Hid (es[k].1.size ≤ 1048576 ∧ es[k].2.size ≤ 1048576 → ∀ q ∈ es.take (k + 1), q.1.size ≤ 1048576 ∧ q.2.size ≤ 1048576) := by
            intro h q hq
            rw [List.take_succ_eq_append_getElem hkl] at hq
            simp only [List.mem_append, List.mem_cons, List.not_mem_nil, or_false] at hq
            rcases hq with hq | rfl
            · exact hall.out q hq
            · exact h
          obtain ⟨z, hz⟩ : ∃ z, es[k].1 = z := ⟨_, rfl⟩
          obtain ⟨u, hu⟩ : ∃ u, es[k].2 = u := ⟨_, rfl⟩
          rw [hz, hu] at hxx
          rw [hz, hu] at hsk hnext
          have x1 : wr.cell? ⟨b, off + k * 2, none⟩ = _ := (hB.cell (by exact hlt)).trans hxx.1
          have x2 : wr.cell? ⟨b, off + k * 2 + 1, none⟩ = _ := (hB.cell (by exact hlt)).trans hxx.2
          dsimp only at x1 x2
          have hwz := hB.size
          clear hxx hz hu hkl hall
          go_wp2_with fail
          refine (szAttr_any z u y wr hsk hy).mono ?_
          rintro e w1 ⟨(rfl | ⟨v, hv, rfl, hzz⟩), hb1⟩
          · go_wp2
            go_ret
            exact ⟨.inl rfl, hB.trans (hb1.mono hwz)⟩
          · have hnx : Hid _ := hnext.out hzz
            clear x1 x2
            go_wp2
            go_roundw
            case rel => exact ⟨k + 1, v, by omega, by go_num, rfl, hv, hB.trans (hb1.mono hwz), hnx⟩
            case measure => simp [intOf]; omega
        · have hki : ¬ (k : Int) < (n : Int) := by omega
          go_wp2
          go_ret
          refine ⟨.inr ⟨y, hy, rfl, by omega, ?_⟩, hB⟩
          have := hall.out
          rw [List.take_of_length_le (by rw [hn'.out]; omega)] at this
          exact fun a b h => this (a, b) h
/-- An inode whose lists and texts are small. -/
structure InoSmall (D : InoD) : Prop where
  data : D.data.length ≤ 1048576
  ents : D.ents.length ≤ 1048576
  attrs : D.attrs.length ≤ 1048576
  entsz : ∀ q ∈ D.ents, q.1.size ≤ 1048576
  attrsz : ∀ q ∈ D.attrs, q.1.size ≤ 1048576 ∧ q.2.size ≤ 1048576
set_option maxHeartbeats 1600000 in
theorem szInode_any (D : InoD) (a1 a2 a3 : Option Addr) (c1 c2 c3 x : Nat) (w : World) (hx : x ≤ 1048576) (hi : InoIn D) (hr : InoRd w D a1 a2 a3) :
    Calls Try.prog 34 #[inoV D a1 c1 a2 c2 a3 c3, .int .i64 x] w fun e w' => SzP (InoSmall D) e ∧ Below w.heap.size w w' := by
  obtain ⟨ino, kind, links, data, ents, attrs⟩ := D
  obtain ⟨n1, hn1⟩ : ∃ n, data.length = n := ⟨_, rfl⟩
  obtain ⟨n2, hn2⟩ : ∃ n, ents.length = n := ⟨_, rfl⟩
  obtain ⟨n3, hn3⟩ : ∃ n, attrs.length = n := ⟨_, rfl⟩
  obtain ⟨_, _, _, m1, m2, m3, m4, m5⟩ := hi
  dsimp only at m1 m2 m3 m4 m5
  unfold inoV
  dsimp only
  rw [hn1] at m1
  rw [hn2] at m2
  rw [hn3] at m3
  simp only [hn1, hn2, hn3]
  have k1 : Hid (data.length = n1) := hn1
  have k2 : Hid (ents.length = n2) := hn2
  have k3 : Hid (attrs.length = n3) := hn3
  clear hn1 hn2 hn3
  obtain ⟨r1, r2, r3, r4⟩ := hr
  dsimp only at r1 r2 r3 r4
  have M4 : Hid _ := m4
  have M5 : Hid _ := m5
  clear m4 m5
  obtain ⟨Q, hQ⟩ : ∃ Q : Ending → Prop, SzP (InoSmall ⟨ino, kind, links, data, ents, attrs⟩) = Q := ⟨_, rfl⟩
  rw [hQ]
  have hneg : Q (.returned (.int .i64 (-1))) := by rw [← hQ]; exact .inl rfl
  have hpos : Hid (∀ v : Nat, v ≤ 1048576 → n1 ≤ 1048576 → (n2 ≤ 1048576 ∧ ∀ q ∈ ents, q.1.size ≤ 1048576) → (n3 ≤ 1048576 ∧ ∀ q ∈ attrs, q.1.size ≤ 1048576 ∧ q.2.size ≤ 1048576) → Q (.returned (.int .i64 v))) := by
    intro v hv p1 p2 p3
    rw [← hQ]
    exact .inr ⟨v, hv, rfl, by dsimp only; rw [k1.out]; exact p1, by dsimp only; rw [k2.out]; exact p2.1, by dsimp only; rw [k3.out]; exact p3.1, p2.2, p3.2⟩
  have HN : Hid _ := hneg
  clear hneg hQ
  go_enter Try.func34, Try.ntmps34
  go_wp2_with fail
  have z0 := Blk.new w 65 #[.int .i64 ino, .int .i64 kind, .int .i64 links, .slice a1 n1 c1, .slice a2 n2 c2, .slice a3 n3 c3]
  have B0 : Below w.heap.size w (w.alloc (.cells #[.int .i64 ino, .int .i64 kind, .int .i64 links, .slice a1 n1 c1, .slice a2 n2 c2, .slice a3 n3 c3] 65)) := (Below.refl _ w).alloc (Nat.le_refl _) _
  obtain ⟨W0, hW0⟩ : ∃ W0, w.alloc (.cells #[.int .i64 ino, .int .i64 kind, .int .i64 links, .slice a1 n1 c1, .slice a2 n2 c2, .slice a3 n3 c3] 65) = W0 := ⟨_, rfl⟩
  rw [hW0] at z0 B0 ⊢
  clear hW0
  refine (szByteS_any a1 n1 c1 x W0 m1 hx).mono ?_
  rintro e w1 ⟨(rfl | ⟨v, hv, rfl, p1⟩), t1⟩
  · go_wp2
    go_ret
    exact ⟨HN.out, B0.trans (t1.mono B0.size)⟩
  · have B1 := B0.trans (t1.mono B0.size)
    have y0 := z0.keep t1
    have d0 := y0.cell 4
    simp at d0
    go_wp2_with fail
    refine (szEntS_any a2 n2 c2 v ents w1 k2.out m2 hv M4.out (r3.keep B1)).mono ?_
    rintro e w2 ⟨(rfl | ⟨u, hu, rfl, p2⟩), t2⟩
    · go_wp2
      go_ret
      exact ⟨HN.out, B1.trans (t2.mono B1.size)⟩
    · have B2 := B1.trans (t2.mono B1.size)
      have P2 : Hid _ := p2
      have x0 := (y0.keep t2).cell 5
      simp at x0
      clear d0 p2
      go_wp2_with fail
      refine (szAttrS_any a3 n3 c3 u attrs w2 k3.out m3 hu M5.out (r4.keep B2)).mono ?_
      rintro e w3 ⟨(rfl | ⟨q, hq, rfl, p3⟩), t3⟩
      · go_wp2
        go_ret
        exact ⟨HN.out, B2.trans (t3.mono B2.size)⟩
      · have P3 : Hid _ := p3
        clear p3
        go_wp2
        go_ret
        exact ⟨hpos.out q hq p1 P2.out P3.out, B2.trans (t3.mono B2.size)⟩
end Go.Proofs.Ytnadeelnjhollaa
