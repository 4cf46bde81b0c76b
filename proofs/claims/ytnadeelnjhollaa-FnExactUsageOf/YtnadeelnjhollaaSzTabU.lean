/-
  The size of a table of the laws.
-/
import Derived.Test.YtnadeelnjhollaaSzInoU
import Derived.Test.YtnadeelnjhollaaTabMU
namespace Go.Proofs.Ytnadeelnjhollaa
open Go.RowKit
set_option maxHeartbeats 1600000 in
theorem szInodeS_any (a : Option Addr) (n cap x : Nat) (rs : List InoR) (w : World) (hn : rs.length = n) (hm : n ≤ maxLen) (hx : x ≤ 1048576) (hin : ∀ r ∈ rs, InoIn r.D) (hr : RdI w a rs) :
    Calls Try.prog 19 #[.slice a n cap, .int .i64 x] w fun e w' => SzP (n ≤ 1048576 ∧ ∀ r ∈ rs, InoSmall r.D) e ∧ Below w.heap.size w w' := by
  unfold maxLen at hm
  by_cases h : x < n
  · have h1 : ((x : Int) - (n : Int)) < 0 := by omega
    go_enter Try.func19, Try.ntmps19
    go_wp2
    go_ret
    exact ⟨.inl rfl, Below.refl _ _⟩
  · have h1 : ¬ ((x : Int) - (n : Int)) < 0 := by omega
    by_cases h0 : n = 0
    · subst h0
      obtain rfl : rs = [] := List.length_eq_zero_iff.1 hn
      go_enter Try.func19, Try.ntmps19
      go_wp2
      refine wp_loop_rounds 1 ?_; rw [rounds_succ]
      go_wp2
      go_ret
      exact ⟨.inr ⟨x, hx, ret_int (by simp), by omega, by simp⟩, Below.refl _ _⟩
    · have hne : rs ≠ [] := by intro h; subst h; simp at hn; omega
      obtain ⟨b, off, rfl, hlt, hc⟩ := hr.lt hne
      clear hr hne
      have hn' : Hid (rs.length = n) := hn
      have HC : Hid _ := hc
      have HI : Hid _ := hin
      clear hn hc hin
      go_enter Try.func19, Try.ntmps19
      go_wp2
      go_loopw [1, 5] (fun l i wr => ∃ k y : Nat, k ≤ n ∧ i = .int .i64 k ∧ l = .int .i64 y ∧ y ≤ 1048576 ∧ Below w.heap.size w wr ∧ Hid (∀ r ∈ rs.take k, InoSmall r.D)) (fun _ i _ => n - (intOf i).toNat)
      case atStart => exact ⟨0, x - n, Nat.zero_le _, rfl, by go_num, by omega, Below.refl _ _, fun q hq => by simp at hq⟩
      case round =>
        obtain ⟨k, y, hk, rfl, rfl, hy, hB, hall⟩ := hrel
        by_cases hkn : k < n
        · have hkl : k < rs.length := by rw [hn'.out]; exact hkn
          have hki : (k : Int) < (n : Int) := by omega
          obtain ⟨r, hrk⟩ : ∃ r, rs[k]? = some r := ⟨_, List.getElem?_eq_getElem hkl⟩
          obtain ⟨x6, xr⟩ := HC.out k r hrk
          have hcall := szInode_any r.D r.a1 r.a2 r.a3 r.c1 r.c2 r.c3 y wr hy (HI.out r (List.mem_of_getElem? hrk)) (xr.keep hB)
          have hnext : Hid (InoSmall r.D → ∀ q ∈ rs.take (k + 1), InoSmall q.D) := by
            intro h q hq
            rw [List.take_add_one, hrk] at hq
            simp only [Option.toList_some, List.mem_append, List.mem_singleton] at hq
            rcases hq with hq | rfl
            · exact hall.out q hq
            · exact h
          have z6 := x6.keep hB hlt
          obtain ⟨x0, x1, x2, x3, x4, x5⟩ := z6
          unfold inoV at hcall
          have hwz := hB.size
          obtain ⟨n1, hn1⟩ : ∃ n, r.D.data.length = n := ⟨_, rfl⟩
          obtain ⟨n2, hn2⟩ : ∃ n, r.D.ents.length = n := ⟨_, rfl⟩
          obtain ⟨n3, hn3⟩ : ∃ n, r.D.attrs.length = n := ⟨_, rfl⟩
          rw [hn1] at x3 hcall
          rw [hn2] at x4 hcall
          rw [hn3] at x5 hcall
          clear x6 xr hall hn1 hn2 hn3 hrk hkl
          go_wp2_with fail
          refine hcall.mono ?_
          rintro e w1 ⟨(rfl | ⟨v, hv, rfl, hzz⟩), hb1⟩
          · go_wp2
            go_ret
            exact ⟨.inl rfl, hB.trans (hb1.mono hwz)⟩
          · have hnx : Hid _ := hnext.out hzz
            clear x0 x1 x2 x3 x4 x5 hcall
            go_wp2
            go_roundw
            case rel => exact ⟨k + 1, v, by omega, by go_num, rfl, hv, hB.trans (hb1.mono hwz), hnx⟩
            case measure => simp [intOf]; omega
        · have hki : ¬ (k : Int) < (n : Int) := by omega
          go_wp2
          go_ret
          refine ⟨.inr ⟨y, hy, rfl, by omega, ?_⟩, hB⟩
          have := hall.out
          rw [List.take_of_length_le (by rw [hn'.out]; omega)] at this
          exact this
set_option maxHeartbeats 800000 in
theorem szTab_any (a : Option Addr) (n cap x : Nat) (nx : Int) (rs : List InoR) (w : World) (hn : rs.length = n) (hm : n ≤ maxLen) (hx : x ≤ 1048576) (hin : ∀ r ∈ rs, InoIn r.D) (hr : RdI w a rs) :
    Calls Try.prog 6 #[.agg #[.slice a n cap, .int .i64 nx], .int .i64 x] w fun e w' => SzP (n ≤ 1048576 ∧ ∀ r ∈ rs, InoSmall r.D) e ∧ Below w.heap.size w w' := by
  have B0 : Below w.heap.size w (w.alloc (.cells #[.slice a n cap, .int .i64 nx] 24)) := (Below.refl _ w).alloc (Nat.le_refl _) _
  have hcall := szInodeS_any a n cap x rs (w.alloc (.cells #[.slice a n cap, .int .i64 nx] 24)) hn hm hx hin (hr.keep B0)
  have HB : Hid _ := B0
  clear hin hr hn hm
  go_enter Try.func6, Try.ntmps6
  go_wp2_with fail
  refine hcall.mono ?_
  rintro e w1 ⟨(rfl | ⟨v, hv, rfl, hzz⟩), hb1⟩
  · go_wp2
    go_ret
    exact ⟨.inl rfl, HB.out.trans (hb1.mono HB.out.size)⟩
  · have hz : Hid _ := hzz
    clear hzz
    go_wp2
    go_ret
    exact ⟨.inr ⟨v, hv, rfl, hz.out⟩, HB.out.trans (hb1.mono HB.out.size)⟩
end Go.Proofs.Ytnadeelnjhollaa
