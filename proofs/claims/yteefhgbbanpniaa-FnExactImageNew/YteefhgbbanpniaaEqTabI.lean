/-
  Two tables of the same data, compared by the laws.
-/
import Derived.Test.YteefhgbbanpniaaEqInoI
import Derived.Test.YteefhgbbanpniaaJ04I
namespace Go.Proofs.Yteefhgbbanpniaa
open Go.RowKit
set_option maxHeartbeats 3200000 in
theorem eqInodeS_same (a a' : Option Addr) (n cap cap' : Nat) (rs ts : List InoR) (w : World) (hn : rs.length = n) (hs : n ≤ 4000000) (hD : ts.map InoR.D = rs.map InoR.D) (hsm : ∀ r ∈ rs, InoSmall r.D) (hr : RdI w a rs) (hr' : RdI w a' ts) :
    Calls Try.prog 43 #[.slice a n cap, .slice a' n cap'] w fun e w' => e = .returned (.bool true) ∧ Below w.heap.size w w' := by
  have hnt : ts.length = n := by have := congrArg List.length hD; simp at this; omega
  by_cases h0 : n = 0
  · subst h0
    go_enter Try.func43, Try.ntmps43
    go_wp2
    refine wp_loop_rounds 1 ?_; rw [rounds_succ]
    go_wp2
    go_ret
    exact ⟨rfl, Below.refl _ _⟩
  · obtain ⟨b, off, rfl, hlt, hc⟩ := hr.lt (by intro h; subst h; simp at hn; omega)
    obtain ⟨b', off', rfl, hlt', hc'⟩ := hr'.lt (by intro h; subst h; simp at hnt; omega)
    have hn' : Hid (rs.length = n) := hn
    have HC : Hid _ := hc
    have HC' : Hid _ := hc'
    have HS : Hid _ := hsm
    have HD : Hid _ := hD
    clear hr hr' hn hc hc' hsm hD hnt
    go_enter Try.func43, Try.ntmps43
    go_wp2
    go_loopw [5] (fun i wr => ∃ k : Nat, k ≤ n ∧ i = .int .i64 k ∧ Below w.heap.size w wr) (fun i _ => n - (intOf i).toNat)
    case atStart => exact ⟨0, Nat.zero_le _, rfl, Below.refl _ _⟩
    case round =>
      obtain ⟨k, hk, rfl, hB⟩ := hrel
      by_cases hkn : k < n
      · have hkl : k < rs.length := by rw [hn'.out]; exact hkn
        have hki : (k : Int) < (n : Int) := by omega
        obtain ⟨r, hrk⟩ : ∃ r, rs[k]? = some r := ⟨_, List.getElem?_eq_getElem hkl⟩
        obtain ⟨t, htk, hrt⟩ : ∃ t, ts[k]? = some t ∧ t.D = r.D := by
          have := congrArg (fun l => l[k]?) HD.out
          simp only [List.getElem?_map, hrk, Option.map_some] at this
          cases ht : ts[k]? with
          | none => rw [ht] at this; simp at this
          | some t => rw [ht] at this; simp at this; exact ⟨t, rfl, this⟩
        obtain ⟨x6, xr⟩ := HC.out k r hrk
        obtain ⟨y6, yr⟩ := HC'.out k t htk
        have hsr := HS.out r (List.mem_of_getElem? hrk)
        have hcall : ∀ W : World, Below w.heap.size w W → Calls Try.prog 44 #[inoV r.D r.a1 r.c1 r.a2 r.c2 r.a3 r.c3, inoV r.D t.a1 t.c1 t.a2 t.c2 t.a3 t.c3] W fun e w' => e = .returned (.bool true) ∧ Below W.heap.size W w' := fun W hW =>
          eqInode_same r.D r.a1 r.a2 r.a3 t.a1 t.a2 t.a3 r.c1 r.c2 r.c3 t.c1 t.c2 t.c3 W hsr.data hsr.ents hsr.attrs (xr.keep hW) (by have := yr.keep hW; unfold InoR.rd at this; rw [hrt] at this; exact this)
        obtain ⟨x0, x1, x2, x3, x4, x5⟩ := x6.keep hB hlt
        obtain ⟨y0, y1, y2, y3, y4, y5⟩ := y6.keep hB hlt'
        rw [hrt] at y0 y1 y2 y3 y4 y5
        have hcd := hcall wr.drew hB.drew
        unfold inoV at hcd
        have hwz := hB.size
        obtain ⟨n1, hn1⟩ : ∃ n, r.D.data.length = n := ⟨_, rfl⟩
        obtain ⟨n2, hn2⟩ : ∃ n, r.D.ents.length = n := ⟨_, rfl⟩
        obtain ⟨n3, hn3⟩ : ∃ n, r.D.attrs.length = n := ⟨_, rfl⟩
        rw [hn1] at x3 y3 hcd
        rw [hn2] at x4 y4 hcd
        rw [hn3] at x5 y5 hcd
        obtain ⟨i1, hi1⟩ : ∃ n, r.D.ino = n := ⟨_, rfl⟩
        obtain ⟨i2, hi2⟩ : ∃ n, r.D.kind = n := ⟨_, rfl⟩
        obtain ⟨i3, hi3⟩ : ∃ n, r.D.links = n := ⟨_, rfl⟩
        rw [hi1] at x0 y0 hcd
        rw [hi2] at x1 y1 hcd
        rw [hi3] at x2 y2 hcd
        obtain ⟨ra1, h1⟩ : ∃ a, r.a1 = a := ⟨_, rfl⟩
        obtain ⟨ra2, h2⟩ : ∃ a, r.a2 = a := ⟨_, rfl⟩
        obtain ⟨ra3, h3⟩ : ∃ a, r.a3 = a := ⟨_, rfl⟩
        obtain ⟨ta1, h4⟩ : ∃ a, t.a1 = a := ⟨_, rfl⟩
        obtain ⟨ta2, h5⟩ : ∃ a, t.a2 = a := ⟨_, rfl⟩
        obtain ⟨ta3, h6⟩ : ∃ a, t.a3 = a := ⟨_, rfl⟩
        rw [h1] at x3 hcd
        rw [h2] at x4 hcd
        rw [h3] at x5 hcd
        rw [h4] at y3 hcd
        rw [h5] at y4 hcd
        rw [h6] at y5 hcd
        clear hcall x6 y6 xr yr hsr hn1 hn2 hn3 hi1 hi2 hi3 h1 h2 h3 h4 h5 h6 hrk htk hrt hkl
        go_wp2
        go_region_with ((go_at_call 44; (with_reducible refine hcd.mono ?_); rintro e w1 ⟨rfl, hb1⟩))
        all_goals go_wp2
        all_goals go_roundw
        all_goals first
          | (case rel => exact ⟨k + 1, by omega, by go_num, hB.drew.trans (hb1.mono hwz)⟩)
          | (case measure => simp [intOf]; omega)
      · have hki : ¬ (k : Int) < (n : Int) := by omega
        go_wp2
        go_ret
        exact ⟨rfl, hB⟩
set_option maxHeartbeats 800000 in
theorem eqTab_same (a a' : Option Addr) (n cap cap' : Nat) (nx : Int) (rs ts : List InoR) (w : World) (hn : rs.length = n) (hs : n ≤ 4000000) (hD : ts.map InoR.D = rs.map InoR.D) (hsm : ∀ r ∈ rs, InoSmall r.D) (hr : RdI w a rs) (hr' : RdI w a' ts) :
    Calls Try.prog 35 #[.agg #[.slice a n cap, .int .i64 nx], .agg #[.slice a' n cap', .int .i64 nx]] w fun e w' => e = .returned (.bool true) ∧ Below w.heap.size w w' := by
  have B0 : Below w.heap.size w ((w.alloc (.cells #[.slice a n cap, .int .i64 nx] 54)).alloc (.cells #[.slice a' n cap', .int .i64 nx] 54)) := ((Below.refl _ w).alloc (Nat.le_refl _) _).alloc (by simp) _
  have z0 := (Blk.new w 54 #[.slice a n cap, .int .i64 nx]).alloc (.cells #[.slice a' n cap', .int .i64 nx] 54)
  have z1 := Blk.new (w.alloc (.cells #[.slice a n cap, .int .i64 nx] 54)) 54 #[.slice a' n cap', .int .i64 nx]
  simp only [World.size_alloc] at z1
  have hcall := eqInodeS_same a a' n cap cap' rs ts _ hn hs hD hsm (hr.keep B0) (hr'.keep B0)
  clear hD hsm hr hr' hn
  go_enter Try.func35, Try.ntmps35
  go_wp2_with fail
  refine hcall.mono ?_
  rintro e w1 ⟨rfl, hb1⟩
  have B1 := B0.trans (hb1.mono B0.size)
  have c0 := (z0.keep hb1).cell 1
  have c1 := (z1.keep hb1).cell 1
  simp at c0 c1
  clear hcall z0 z1 hb1
  go_wp2
  go_ret
  exact ⟨rfl, B1⟩
end Go.Proofs.Yteefhgbbanpniaa

