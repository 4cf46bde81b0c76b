/-
  Joined: AtS2, SzW, TabNew.
-/
import Derived.Test.YtfjlemnohjnkhaaGreatJ08F
import Derived.Test.YtfjlemnohjnkhaaGreatJ10F
namespace Go.Proofs.YtfjlemnohjnkhaaGreat
section
open Go.RowKit
/-- The answer stored in the result's box. -/
theorem at_stored {w W : World} {lo : Nat} {D : InoD} {v1 v2 v3 : Value} {os : Array Value} (hb : Below w.heap.size w W) (hg : InoG W lo W.heap.size D v1 v2 v3) (_ : Blk W (w.heap.size + 1) 85 os) (hlo : w.heap.size + 1 < lo) (u0 u1 u2 u3 u4 u5 : Value) :
    InoG ((((((W.setCell ⟨w.heap.size + 1, 0, none⟩ u0).setCell ⟨w.heap.size + 1, 1, none⟩ u1).setCell ⟨w.heap.size + 1, 2, none⟩ u2).setCell ⟨w.heap.size + 1, 3, none⟩ u3).setCell ⟨w.heap.size + 1, 4, none⟩ u4).setCell ⟨w.heap.size + 1, 5, none⟩ u5) w.heap.size ((((((W.setCell ⟨w.heap.size + 1, 0, none⟩ u0).setCell ⟨w.heap.size + 1, 1, none⟩ u1).setCell ⟨w.heap.size + 1, 2, none⟩ u2).setCell ⟨w.heap.size + 1, 3, none⟩ u3).setCell ⟨w.heap.size + 1, 4, none⟩ u4).setCell ⟨w.heap.size + 1, 5, none⟩ u5).heap.size D v1 v2 v3 ∧
    Below w.heap.size w ((((((W.setCell ⟨w.heap.size + 1, 0, none⟩ u0).setCell ⟨w.heap.size + 1, 1, none⟩ u1).setCell ⟨w.heap.size + 1, 2, none⟩ u2).setCell ⟨w.heap.size + 1, 3, none⟩ u3).setCell ⟨w.heap.size + 1, 4, none⟩ u4).setCell ⟨w.heap.size + 1, 5, none⟩ u5) := by
  have g : W.grownBy ((((((W.setCell ⟨w.heap.size + 1, 0, none⟩ u0).setCell ⟨w.heap.size + 1, 1, none⟩ u1).setCell ⟨w.heap.size + 1, 2, none⟩ u2).setCell ⟨w.heap.size + 1, 3, none⟩ u3).setCell ⟨w.heap.size + 1, 4, none⟩ u4).setCell ⟨w.heap.size + 1, 5, none⟩ u5) (some (w.heap.size + 1)) := gr_more (gr_more (gr_more (gr_more (gr_more (gr_setC W _ 0 _) 1 _) 2 _) 3 _) 4 _) 5 _
  exact ⟨(hg.kept fun b h1 h2 => g.block b h2 (by simp; omega)).wider (by omega) g.size, hb.grown g hb.size (fun m hm => by simp at hm; omega)⟩
theorem inoG_zero (w : World) (B T : Nat) : InoG w B T inoZ.D (.slice none 0 0) (.slice none 0 0) (.slice none 0 0) :=
  ⟨⟨rfl, .inl ⟨rfl, rfl⟩⟩, fun z hz => by simp [inoZ] at hz, ⟨rfl, .inl ⟨rfl, rfl⟩⟩, ⟨rfl, .inl ⟨rfl, rfl⟩⟩, fun g hg => by simp [Value.ownBlock] at hg⟩
set_option maxRecDepth 100000 in
set_option maxHeartbeats 2000000 in
theorem inodeAtS (a : Option Addr) (n cap : Nat) (nx x : Int) (rs : List InoR) (w : World) (hn : rs.length = n) (hs : n ≤ 4000000) (hsm : ∀ r ∈ rs, InoSmall r.D) (hr : RdI w a rs) :
    Calls Tryz.prog 99 #[.agg #[.slice a n cap, .int .i64 nx], .int .i64 x] w fun e w' => AtPost w rs x e w' := by
  have B0 : Below w.heap.size w ((w.alloc (.cells #[.slice a n cap, .int .i64 nx] 47)).alloc (.cells #[.int .i64 0, .int .i64 0, .int .i64 0, .slice none 0 0, .slice none 0 0, .slice none 0 0] 85)) := ((Below.refl _ w).alloc (Nat.le_refl _) _).alloc (by simp) _
  have zT : Blk ((w.alloc (.cells #[.slice a n cap, .int .i64 nx] 47)).alloc (.cells #[.int .i64 0, .int .i64 0, .int .i64 0, .slice none 0 0, .slice none 0 0, .slice none 0 0] 85)) w.heap.size 47 #[.slice a n cap, .int .i64 nx] := (Blk.new w _ _).alloc _
  have zR := Blk.new (w.alloc (.cells #[.slice a n cap, .int .i64 nx] 47)) 85 #[.int .i64 0, .int .i64 0, .int .i64 0, .slice none 0 0, .slice none 0 0, .slice none 0 0]
  simp only [World.size_alloc] at zR
  have hsz : ((w.alloc (.cells #[.slice a n cap, .int .i64 nx] 47)).alloc (.cells #[.int .i64 0, .int .i64 0, .int .i64 0, .slice none 0 0, .slice none 0 0, .slice none 0 0] 85)).heap.size = w.heap.size + 1 + 1 := by simp
  have hn' : Hid (rs.length = n) := hn
  cases hfa : firstAt (inos rs) x with
  | none =>
    have hp : Hid (∀ (e : Ending) (w' : World), e = .returned (.tuple #[.agg #[.int .i64 0, .int .i64 0, .int .i64 0, .slice none 0 0, .slice none 0 0, .slice none 0 0], .bool false]) → Below w.heap.size w w' → AtPost w rs x e w') := by
      intro e w' he hb
      have hD : atD rs x = inoZ.D := by unfold atD; rw [hfa]
      have hB : atB rs x = false := by unfold atB; rw [hfa]; rfl
      unfold AtPost
      rw [hD, hB]
      exact ⟨none, 0, none, 0, none, 0, he, inoG_zero _ _ _, hb⟩
    have hN : atN rs x = -1 := by unfold atN; rw [hfa]
    generalize AtPost w rs x = P at hp ⊢
    go_enter Tryz.func99, Tryz.ntmps99
    go_wp2_with fail
    obtain ⟨W0, hW0⟩ : ∃ W, ((w.alloc (.cells #[.slice a n cap, .int .i64 nx] 47)).alloc (.cells #[.int .i64 0, .int .i64 0, .int .i64 0, .slice none 0 0, .slice none 0 0, .slice none 0 0] 85)) = W := ⟨_, rfl⟩
    rw [hW0] at B0 zT zR hsz ⊢
    clear hW0
    have hcL := l4At_any a n cap nx x rs W0 hn hs (hr.keep B0)
    rw [hN] at hcL
    have HF : Hid _ := hfa
    clear hn hsm hr hN hfa
    (with_reducible refine hcL.mono ?_)
    rintro e w1 ⟨rfl, b1⟩
    have zr := zR.keep b1
    obtain ⟨t0, t1, t2, t3, t4, t5⟩ := zr.six
    have fz0 := zr.frozen 0
    have fz1 := zr.frozen 1
    have fz2 := zr.frozen 2
    have fz3 := zr.frozen 3
    have fz4 := zr.frozen 4
    have fz5 := zr.frozen 5
    have HG : Hid _ := And.intro zr (B0.trans (b1.mono B0.size))
    clear zr zR zT B0 b1 hcL
    go_wp2
    have zf := ((((((show Blk w1 (w.heap.size + 1) 85 _ from HG.out.1).set 0 (.int .i64 0)).set 1 (.int .i64 0)).set 2 (.int .i64 0)).set 3 (.slice none 0 0)).set 4 (.slice none 0 0)).set 5 (.slice none 0 0)
    have dd0 := zf.cell 0
    have dd1 := zf.cell 1
    have dd2 := zf.cell 2
    have dd3 := zf.cell 3
    have dd4 := zf.cell 4
    have dd5 := zf.cell 5
    simp at dd0 dd1 dd2 dd3 dd4 dd5
    refine bodyPost_ret (v := .tuple #[.agg #[.int .i64 0, .int .i64 0, .int .i64 0, .slice none 0 0, .slice none 0 0, .slice none 0 0], .bool false]) (by simp [results, Tryz.f99, go_sem, dd0, dd1, dd2, dd3, dd4, dd5]) rfl ?_
    exact hp.out _ _ rfl (at_stored HG.out.2 (inoG_zero w1 (w.heap.size + 1 + 1) w1.heap.size) HG.out.1 (Nat.lt_succ_self _) _ _ _ _ _ _).2
  | some p =>
    have hpl := firstAt_in hfa
    obtain ⟨r, hrp⟩ : ∃ r, rs[p]? = some r := ⟨_, List.getElem?_eq_getElem hpl⟩
    have hp : Hid (∀ (e : Ending) (w' : World) (b1 : Option Addr) (d1 : Nat) (b2 : Option Addr) (d2 : Nat) (b3 : Option Addr) (d3 : Nat), e = .returned (.tuple #[.agg #[.int .i64 r.D.ino, .int .i64 r.D.kind, .int .i64 r.D.links, .slice b1 r.D.data.length d1, .slice b2 r.D.ents.length d2, .slice b3 r.D.attrs.length d3], .bool true]) → InoG w' w.heap.size w'.heap.size r.D (.slice b1 r.D.data.length d1) (.slice b2 r.D.ents.length d2) (.slice b3 r.D.attrs.length d3) → Below w.heap.size w w' → AtPost w rs x e w') := by
      intro e w' b1 d1 b2 d2 b3 d3 he hg hb
      have hD : atD rs x = r.D := by unfold atD; rw [hfa]; simp [List.getD_eq_getElem?_getD, hrp]
      have hB : atB rs x = true := by unfold atB; rw [hfa]; rfl
      unfold AtPost
      rw [hD, hB]
      exact ⟨b1, d1, b2, d2, b3, d3, he, hg, hb⟩
    have hN : atN rs x = (p : Int) := by unfold atN; rw [hfa]
    have hpn : p < n := by omega
    have hpi : (p : Int) < (n : Int) := by omega
    have hpp : (0 : Int) ≤ (p : Int) := by omega
    have hpq : ¬ (p : Int) < 0 := by omega
    generalize AtPost w rs x = P at hp ⊢
    go_enter Tryz.func99, Tryz.ntmps99
    go_wp2_with fail
    obtain ⟨W0, hW0⟩ : ∃ W, ((w.alloc (.cells #[.slice a n cap, .int .i64 nx] 47)).alloc (.cells #[.int .i64 0, .int .i64 0, .int .i64 0, .slice none 0 0, .slice none 0 0, .slice none 0 0] 85)) = W := ⟨_, rfl⟩
    rw [hW0] at B0 zT zR hsz ⊢
    clear hW0
    have hr0 := hr.keep B0
    have hcL := l4At_any a n cap nx x rs W0 hn hs hr0
    rw [hN] at hcL
    have hsr := hsm r (List.mem_of_getElem? hrp)
    have HF : Hid _ := hfa
    have HQ : Hid _ := hrp
    have HP : Hid _ := hpl
    clear hsm hr hN hfa hrp hpl hn
    (with_reducible refine hcL.mono ?_)
    rintro e w1 ⟨rfl, b1⟩
    have zt := (zT.keep b1).cell 0
    simp at zt
    obtain ⟨b, off, rfl, hlt, hc⟩ := (hr0.keep b1).lt (by intro h; have := hn'.out; rw [h] at this; simp at this; omega)
    obtain ⟨⟨x0, x1, x2, x3, x4, x5⟩, xr⟩ := hc p r HQ.out
    have hcC := l3Copy_any r.D r.a1 r.a2 r.a3 r.c1 r.c2 r.c3 w1 hsr xr
    have HG1 : Hid _ := And.intro (zR.keep b1) (And.intro (B0.trans (b1.mono B0.size)) b1.size)
    have HSZ : Hid _ := hsz
    clear zR zT B0 b1 hcL hc hr0 hsz
    go_wp2_with fail
    (with_reducible refine hcC.mono ?_)
    rintro e w2 ⟨b1, d1, b2, d2, b3, d3, rfl, g2, bb2⟩
    have zr := Blk.keep HG1.out.1 bb2
    obtain ⟨t0, t1, t2, t3, t4, t5⟩ := zr.six
    have fz0 := zr.frozen 0
    have fz1 := zr.frozen 1
    have fz2 := zr.frozen 2
    have fz3 := zr.frozen 3
    have fz4 := zr.frozen 4
    have fz5 := zr.frozen 5
    have HG : Hid _ := And.intro zr (And.intro (HG1.out.2.1.trans (bb2.mono HG1.out.2.1.size)) g2)
    clear zr g2 bb2 hcC x0 x1 x2 x3 x4 x5 zt
    go_wp2
    have zf := ((((((show Blk w2 (w.heap.size + 1) 85 _ from HG.out.1).set 0 (.int .i64 r.D.ino)).set 1 (.int .i64 r.D.kind)).set 2 (.int .i64 r.D.links)).set 3 (.slice b1 r.D.data.length d1)).set 4 (.slice b2 r.D.ents.length d2)).set 5 (.slice b3 r.D.attrs.length d3)
    have dd0 := zf.cell 0
    have dd1 := zf.cell 1
    have dd2 := zf.cell 2
    have dd3 := zf.cell 3
    have dd4 := zf.cell 4
    have dd5 := zf.cell 5
    simp at dd0 dd1 dd2 dd3 dd4 dd5
    refine bodyPost_ret (v := .tuple #[.agg #[.int .i64 r.D.ino, .int .i64 r.D.kind, .int .i64 r.D.links, .slice b1 r.D.data.length d1, .slice b2 r.D.ents.length d2, .slice b3 r.D.attrs.length d3], .bool true]) (by simp [results, Tryz.f99, go_sem, dd0, dd1, dd2, dd3, dd4, dd5]) rfl ?_
    have hst := at_stored HG.out.2.1 HG.out.2.2 HG.out.1 (by have := HG1.out.2.2; have := HSZ.out; omega) (.int .i64 r.D.ino) (.int .i64 r.D.kind) (.int .i64 r.D.links) (.slice b1 r.D.data.length d1) (.slice b2 r.D.ents.length d2) (.slice b3 r.D.attrs.length d3)
    exact hp.out _ _ _ _ _ _ _ _ rfl hst.1 hst.2
end

section
open Go.RowKit
/-- What the measuring functions answer: below 0, or what is left of x when c is taken, and P. -/
def SzQ (x c : Nat) (P : Prop) (e : Ending) : Prop := e = .returned (.int .i64 (-1)) ∨ ∃ v : Nat, v + c ≤ x ∧ e = .returned (.int .i64 v) ∧ P
/-- How much the lists of inodes hold. -/
def cntI (rs : List InoR) : Nat := (rs.map fun r => r.D.data.length + r.D.ents.length + r.D.attrs.length).sum
set_option maxHeartbeats 400000 in
theorem szByteS_w (a : Option Addr) (n cap x : Nat) (w : World) (hn : n ≤ maxLen) (hx : x ≤ 1048576) :
    Calls Tryz.prog 149 #[.slice a n cap, .int .i64 x] w fun e w' => SzQ x n (n ≤ 1048576) e ∧ Below w.heap.size w w' := by
  unfold maxLen at hn
  by_cases h : x < n
  · have h1 : ((x : Int) - (n : Int)) < 0 := by omega
    go_enter Tryz.func149, Tryz.ntmps149
    go_wp2
    go_ret
    exact ⟨.inl rfl, Below.refl _ _⟩
  · have h1 : ¬ ((x : Int) - (n : Int)) < 0 := by omega
    go_enter Tryz.func149, Tryz.ntmps149
    go_wp2
    go_ret
    exact ⟨.inr ⟨x - n, by omega, ret_int (by omega), by omega⟩, Below.refl _ _⟩
set_option maxHeartbeats 400000 in
theorem szEnt_w (z : ByteArray) (y : Int) (x : Nat) (w : World) (hz : z.size ≤ maxLen) (hx : x ≤ 1048576) :
    Calls Tryz.prog 169 #[.agg #[.string z, .int .i64 y], .int .i64 x] w fun e w' => SzQ x 0 (z.size ≤ 1048576) e ∧ Below w.heap.size w w' := by
  unfold maxLen at hz
  by_cases h : x < z.size
  · have h1 : ((x : Int) - (z.size : Int)) < 0 := by omega
    go_enter Tryz.func169, Tryz.ntmps169
    go_wp2
    go_ret
    exact ⟨.inl rfl, (Below.refl _ w).alloc (Nat.le_refl _) _⟩
  · have h1 : ¬ ((x : Int) - (z.size : Int)) < 0 := by omega
    go_enter Tryz.func169, Tryz.ntmps169
    go_wp2
    go_ret
    exact ⟨.inr ⟨x - z.size, by omega, ret_int (by omega), by omega⟩, (Below.refl _ w).alloc (Nat.le_refl _) _⟩
set_option maxHeartbeats 400000 in
theorem szAttr_w (z y : ByteArray) (x : Nat) (w : World) (hz : z.size ≤ maxLen ∧ y.size ≤ maxLen) (hx : x ≤ 1048576) :
    Calls Tryz.prog 170 #[.agg #[.string z, .string y], .int .i64 x] w fun e w' => SzQ x 0 (z.size ≤ 1048576 ∧ y.size ≤ 1048576) e ∧ Below w.heap.size w w' := by
  unfold maxLen at hz
  obtain ⟨hz, hy⟩ := hz
  by_cases h : x < z.size
  · have h1 : ((x : Int) - (z.size : Int)) < 0 := by omega
    go_enter Tryz.func170, Tryz.ntmps170
    go_wp2
    go_ret
    exact ⟨.inl rfl, (Below.refl _ w).alloc (Nat.le_refl _) _⟩
  · have h1 : ¬ ((x : Int) - (z.size : Int)) < 0 := by omega
    by_cases h' : x - z.size < y.size
    · have h2 : ((x : Int) - (z.size : Int) - (y.size : Int)) < 0 := by omega
      go_enter Tryz.func170, Tryz.ntmps170
      go_wp2
      go_ret
      exact ⟨.inl rfl, (Below.refl _ w).alloc (Nat.le_refl _) _⟩
    · have h2 : ¬ ((x : Int) - (z.size : Int) - (y.size : Int)) < 0 := by omega
      go_enter Tryz.func170, Tryz.ntmps170
      go_wp2
      go_ret
      exact ⟨.inr ⟨x - z.size - y.size, by omega, ret_int (by omega), by omega, by omega⟩, (Below.refl _ w).alloc (Nat.le_refl _) _⟩
set_option maxHeartbeats 800000 in
theorem szEntS_w (a : Option Addr) (n cap x : Nat) (es : List (ByteArray × Int)) (w : World) (hn : es.length = n) (hm : n ≤ maxLen) (hx : x ≤ 1048576) (hsz : ∀ q ∈ es, q.1.size ≤ maxLen ∧ (Lit.int .i64 q.2).wf = true) (hr : RdP w a (eP es)) :
    Calls Tryz.prog 150 #[.slice a n cap, .int .i64 x] w fun e w' => SzQ x n (n ≤ 1048576 ∧ ∀ q ∈ es, q.1.size ≤ 1048576) e ∧ Below w.heap.size w w' := by
  unfold maxLen at hm
  by_cases h : x < n
  · have h1 : ((x : Int) - (n : Int)) < 0 := by omega
    go_enter Tryz.func150, Tryz.ntmps150
    go_wp2
    go_ret
    exact ⟨.inl rfl, Below.refl _ _⟩
  · have h1 : ¬ ((x : Int) - (n : Int)) < 0 := by omega
    by_cases h0 : n = 0
    · subst h0
      obtain rfl : es = [] := List.length_eq_zero_iff.1 hn
      go_enter Tryz.func150, Tryz.ntmps150
      go_wp2
      refine wp_loop_rounds 1 ?_; rw [rounds_succ]
      go_wp2
      go_ret
      exact ⟨.inr ⟨x, by omega, ret_int (by simp), by omega, by simp⟩, Below.refl _ _⟩
    · have hne : eP es ≠ [] := by intro h; have := congrArg List.length h; rw [eP_length] at this; simp at this; subst this; simp at hn; omega
      obtain ⟨b, off, rfl, hlt, hc⟩ := hr.lt hne
      clear hr hne
      have hn' : Hid (es.length = n) := hn
      clear hn
      go_enter Tryz.func150, Tryz.ntmps150
      go_wp2
      go_loopw [1, 5] (fun l i wr => ∃ k y : Nat, k ≤ n ∧ i = .int .i64 k ∧ l = .int .i64 y ∧ y + n ≤ x ∧ Below w.heap.size w wr ∧ Hid (∀ q ∈ es.take k, q.1.size ≤ 1048576)) (fun _ i _ => n - (intOf i).toNat)
      case atStart => exact ⟨0, x - n, Nat.zero_le _, rfl, by go_num, by omega, Below.refl _ _, fun q hq => by simp at hq⟩
      case round =>
        obtain ⟨k, y, hk, rfl, rfl, hy, hB, hall⟩ := hrel
        by_cases hkn : k < n
        · have hkl : k < es.length := by rw [hn'.out]; exact hkn
          have hki : (k : Int) < (n : Int) := by omega
          have hxx := hc k (by rw [eP_length]; exact hkl)
          rw [eP_at es k hkl] at hxx
          have hsk := (hsz es[k] (List.getElem_mem hkl)).1
          have hnext : Hid (es[k].1.size ≤ 1048576 → ∀ q ∈ es.take (k + 1), q.1.size ≤ 1048576) := by
            intro h q hq
            rw [List.take_succ_eq_append_getElem hkl] at hq
            simp only [List.mem_append, List.mem_cons, List.not_mem_nil, or_false] at hq
            rcases hq with hq | rfl
            · exact hall.out q hq
            · exact h
          obtain ⟨z, hz⟩ : ∃ z, es[k].1 = z := ⟨_, rfl⟩
          obtain ⟨u, hu⟩ : ∃ u, es[k].2 = u := ⟨_, rfl⟩
          rw [hz, hu] at hxx
          rw [hz] at hsk hnext
          have x1 : wr.cell? ⟨b, off + k * 2, none⟩ = _ := (hB.cell (by exact hlt)).trans hxx.1
          have x2 : wr.cell? ⟨b, off + k * 2 + 1, none⟩ = _ := (hB.cell (by exact hlt)).trans hxx.2
          dsimp only at x1 x2
          have hwz := hB.size
          clear hxx hz hu hkl hall
          go_wp2_with fail
          refine (szEnt_w z u y wr hsk (by omega)).mono ?_
          rintro e w1 ⟨(rfl | ⟨v, hv, rfl, hzz⟩), hb1⟩
          · go_wp2
            go_ret
            exact ⟨.inl rfl, hB.trans (hb1.mono hwz)⟩
          · have hnx : Hid _ := hnext.out hzz
            clear x1 x2
            go_wp2
            go_roundw
            case rel => exact ⟨k + 1, v, by omega, by go_num, rfl, by omega, hB.trans (hb1.mono hwz), hnx⟩
            case measure => simp [intOf]; omega
        · have hki : ¬ (k : Int) < (n : Int) := by omega
          go_wp2
          go_ret
          refine ⟨.inr ⟨y, hy, rfl, by omega, ?_⟩, hB⟩
          have := hall.out
          rw [List.take_of_length_le (by rw [hn'.out]; omega)] at this
          exact fun a b h => this (a, b) h
set_option maxHeartbeats 800000 in
theorem szAttrS_w (a : Option Addr) (n cap x : Nat) (es : List (ByteArray × ByteArray)) (w : World) (hn : es.length = n) (hm : n ≤ maxLen) (hx : x ≤ 1048576) (hsz : ∀ q ∈ es, q.1.size ≤ maxLen ∧ q.2.size ≤ maxLen) (hr : RdP w a (aP es)) :
    Calls Tryz.prog 151 #[.slice a n cap, .int .i64 x] w fun e w' => SzQ x n (n ≤ 1048576 ∧ ∀ q ∈ es, q.1.size ≤ 1048576 ∧ q.2.size ≤ 1048576) e ∧ Below w.heap.size w w' := by
  unfold maxLen at hm
  by_cases h : x < n
  · have h1 : ((x : Int) - (n : Int)) < 0 := by omega
    go_enter Tryz.func151, Tryz.ntmps151
    go_wp2
    go_ret
    exact ⟨.inl rfl, Below.refl _ _⟩
  · have h1 : ¬ ((x : Int) - (n : Int)) < 0 := by omega
    by_cases h0 : n = 0
    · subst h0
      obtain rfl : es = [] := List.length_eq_zero_iff.1 hn
      go_enter Tryz.func151, Tryz.ntmps151
      go_wp2
      refine wp_loop_rounds 1 ?_; rw [rounds_succ]
      go_wp2
      go_ret
      exact ⟨.inr ⟨x, by omega, ret_int (by simp), by omega, by simp⟩, Below.refl _ _⟩
    · have hne : aP es ≠ [] := by intro h; have := congrArg List.length h; rw [aP_length] at this; simp at this; subst this; simp at hn; omega
      obtain ⟨b, off, rfl, hlt, hc⟩ := hr.lt hne
      clear hr hne
      have hn' : Hid (es.length = n) := hn
      clear hn
      go_enter Tryz.func151, Tryz.ntmps151
      go_wp2
      go_loopw [1, 5] (fun l i wr => ∃ k y : Nat, k ≤ n ∧ i = .int .i64 k ∧ l = .int .i64 y ∧ y + n ≤ x ∧ Below w.heap.size w wr ∧ Hid (∀ q ∈ es.take k, q.1.size ≤ 1048576 ∧ q.2.size ≤ 1048576)) (fun _ i _ => n - (intOf i).toNat)
      case atStart => exact ⟨0, x - n, Nat.zero_le _, rfl, by go_num, by omega, Below.refl _ _, fun q hq => by simp at hq⟩
      case round =>
        obtain ⟨k, y, hk, rfl, rfl, hy, hB, hall⟩ := hrel
        by_cases hkn : k < n
        · have hkl : k < es.length := by rw [hn'.out]; exact hkn
          have hki : (k : Int) < (n : Int) := by omega
          have hxx := hc k (by rw [aP_length]; exact hkl)
          rw [aP_at es k hkl] at hxx
          have hsk := hsz es[k] (List.getElem_mem hkl)
          have hnext : Hid (es[k].1.size ≤ 1048576 ∧ es[k].2.size ≤ 1048576 → ∀ q ∈ es.take (k + 1), q.1.size ≤ 1048576 ∧ q.2.size ≤ 1048576) := by
            intro h q hq
            rw [List.take_succ_eq_append_getElem hkl] at hq
            simp only [List.mem_append, List.mem_cons, List.not_mem_nil, or_false] at hq
            rcases hq with hq | rfl
            · exact hall.out q hq
            · exact h
          obtain ⟨z, hz⟩ : ∃ z, es[k].1 = z := ⟨_, rfl⟩
          obtain ⟨u, hu⟩ : ∃ u, es[k].2 = u := ⟨_, rfl⟩
          rw [hz, hu] at hxx
          rw [hz, hu] at hsk hnext
          have x1 : wr.cell? ⟨b, off + k * 2, none⟩ = _ := (hB.cell (by exact hlt)).trans hxx.1
          have x2 : wr.cell? ⟨b, off + k * 2 + 1, none⟩ = _ := (hB.cell (by exact hlt)).trans hxx.2
          dsimp only at x1 x2
          have hwz := hB.size
          clear hxx hz hu hkl hall
          go_wp2_with fail
          refine (szAttr_w z u y wr hsk (by omega)).mono ?_
          rintro e w1 ⟨(rfl | ⟨v, hv, rfl, hzz⟩), hb1⟩
          · go_wp2
            go_ret
            exact ⟨.inl rfl, hB.trans (hb1.mono hwz)⟩
          · have hnx : Hid _ := hnext.out hzz
            clear x1 x2
            go_wp2
            go_roundw
            case rel => exact ⟨k + 1, v, by omega, by go_num, rfl, by omega, hB.trans (hb1.mono hwz), hnx⟩
            case measure => simp [intOf]; omega
        · have hki : ¬ (k : Int) < (n : Int) := by omega
          go_wp2
          go_ret
          refine ⟨.inr ⟨y, hy, rfl, by omega, ?_⟩, hB⟩
          have := hall.out
          rw [List.take_of_length_le (by rw [hn'.out]; omega)] at this
          exact fun a b h => this (a, b) h
set_option maxHeartbeats 1600000 in
theorem szInode_w (D : InoD) (a1 a2 a3 : Option Addr) (c1 c2 c3 x : Nat) (w : World) (hx : x ≤ 1048576) (hi : InoIn D) (hr : InoRd w D a1 a2 a3) :
    Calls Tryz.prog 122 #[inoV D a1 c1 a2 c2 a3 c3, .int .i64 x] w fun e w' => SzQ x (D.data.length + D.ents.length + D.attrs.length) (InoSmall D) e ∧ Below w.heap.size w w' := by
  obtain ⟨ino, kind, links, data, ents, attrs⟩ := D
  obtain ⟨n1, hn1⟩ : ∃ n, data.length = n := ⟨_, rfl⟩
  obtain ⟨n2, hn2⟩ : ∃ n, ents.length = n := ⟨_, rfl⟩
  obtain ⟨n3, hn3⟩ : ∃ n, attrs.length = n := ⟨_, rfl⟩
  obtain ⟨_, _, _, m1, m2, m3, m4, m5⟩ := hi
  dsimp only at m1 m2 m3 m4 m5
  unfold inoV
  dsimp only
  rw [hn1] at m1
  rw [hn2] at m2
  rw [hn3] at m3
  simp only [hn1, hn2, hn3]
  have k1 : Hid (data.length = n1) := hn1
  have k2 : Hid (ents.length = n2) := hn2
  have k3 : Hid (attrs.length = n3) := hn3
  clear hn1 hn2 hn3
  obtain ⟨r1, r2, r3, r4⟩ := hr
  dsimp only at r1 r2 r3 r4
  have M4 : Hid _ := m4
  have M5 : Hid _ := m5
  clear m4 m5
  obtain ⟨Q, hQ⟩ : ∃ Q : Ending → Prop, SzQ x (n1 + n2 + n3) (InoSmall ⟨ino, kind, links, data, ents, attrs⟩) = Q := ⟨_, rfl⟩
  rw [hQ]
  have hneg : Q (.returned (.int .i64 (-1))) := by rw [← hQ]; exact .inl rfl
  have hpos : Hid (∀ v : Nat, v + (n1 + n2 + n3) ≤ x → n1 ≤ 1048576 → (n2 ≤ 1048576 ∧ ∀ q ∈ ents, q.1.size ≤ 1048576) → (n3 ≤ 1048576 ∧ ∀ q ∈ attrs, q.1.size ≤ 1048576 ∧ q.2.size ≤ 1048576) → Q (.returned (.int .i64 v))) := by
    intro v hv p1 p2 p3
    rw [← hQ]
    exact .inr ⟨v, hv, rfl, by dsimp only; rw [k1.out]; exact p1, by dsimp only; rw [k2.out]; exact p2.1, by dsimp only; rw [k3.out]; exact p3.1, p2.2, p3.2⟩
  have HN : Hid _ := hneg
  clear hneg hQ
  go_enter Tryz.func122, Tryz.ntmps122
  go_wp2_with fail
  have z0 := Blk.new w 155 #[.int .i64 ino, .int .i64 kind, .int .i64 links, .slice a1 n1 c1, .slice a2 n2 c2, .slice a3 n3 c3]
  have B0 : Below w.heap.size w (w.alloc (.cells #[.int .i64 ino, .int .i64 kind, .int .i64 links, .slice a1 n1 c1, .slice a2 n2 c2, .slice a3 n3 c3] 155)) := (Below.refl _ w).alloc (Nat.le_refl _) _
  obtain ⟨W0, hW0⟩ : ∃ W0, w.alloc (.cells #[.int .i64 ino, .int .i64 kind, .int .i64 links, .slice a1 n1 c1, .slice a2 n2 c2, .slice a3 n3 c3] 155) = W0 := ⟨_, rfl⟩
  rw [hW0] at z0 B0 ⊢
  clear hW0
  refine (szByteS_w a1 n1 c1 x W0 m1 hx).mono ?_
  rintro e w1 ⟨(rfl | ⟨v, hv, rfl, p1⟩), t1⟩
  · go_wp2
    go_ret
    exact ⟨HN.out, B0.trans (t1.mono B0.size)⟩
  · have B1 := B0.trans (t1.mono B0.size)
    have y0 := z0.keep t1
    have d0 := y0.cell 4
    simp at d0
    go_wp2_with fail
    refine (szEntS_w a2 n2 c2 v ents w1 k2.out m2 (by omega) M4.out (r3.keep B1)).mono ?_
    rintro e w2 ⟨(rfl | ⟨u, hu, rfl, p2⟩), t2⟩
    · go_wp2
      go_ret
      exact ⟨HN.out, B1.trans (t2.mono B1.size)⟩
    · have B2 := B1.trans (t2.mono B1.size)
      have P2 : Hid _ := p2
      have x0 := (y0.keep t2).cell 5
      simp at x0
      clear d0 p2
      go_wp2_with fail
      refine (szAttrS_w a3 n3 c3 u attrs w2 k3.out m3 (by omega) M5.out (r4.keep B2)).mono ?_
      rintro e w3 ⟨(rfl | ⟨q, hq, rfl, p3⟩), t3⟩
      · go_wp2
        go_ret
        exact ⟨HN.out, B2.trans (t3.mono B2.size)⟩
      · have P3 : Hid _ := p3
        clear p3
        go_wp2
        go_ret
        exact ⟨hpos.out q (by omega) p1 P2.out P3.out, B2.trans (t3.mono B2.size)⟩
set_option maxHeartbeats 1600000 in
theorem szInodeS_w (a : Option Addr) (n cap x : Nat) (rs : List InoR) (w : World) (hn : rs.length = n) (hm : n ≤ maxLen) (hx : x ≤ 1048576) (hin : ∀ r ∈ rs, InoIn r.D) (hr : RdI w a rs) :
    Calls Tryz.prog 96 #[.slice a n cap, .int .i64 x] w fun e w' => SzQ x (n + cntI rs) (n ≤ 1048576 ∧ ∀ r ∈ rs, InoSmall r.D) e ∧ Below w.heap.size w w' := by
  unfold maxLen at hm
  by_cases h : x < n
  · have h1 : ((x : Int) - (n : Int)) < 0 := by omega
    go_enter Tryz.func96, Tryz.ntmps96
    go_wp2
    go_ret
    exact ⟨.inl rfl, Below.refl _ _⟩
  · have h1 : ¬ ((x : Int) - (n : Int)) < 0 := by omega
    by_cases h0 : n = 0
    · subst h0
      obtain rfl : rs = [] := List.length_eq_zero_iff.1 hn
      go_enter Tryz.func96, Tryz.ntmps96
      go_wp2
      refine wp_loop_rounds 1 ?_; rw [rounds_succ]
      go_wp2
      go_ret
      exact ⟨.inr ⟨x, by simp [cntI], ret_int (by simp), by omega, by simp⟩, Below.refl _ _⟩
    · have hne : rs ≠ [] := by intro h; subst h; simp at hn; omega
      obtain ⟨b, off, rfl, hlt, hc⟩ := hr.lt hne
      clear hr hne
      have hn' : Hid (rs.length = n) := hn
      have HC : Hid _ := hc
      have HI : Hid _ := hin
      clear hn hc hin
      go_enter Tryz.func96, Tryz.ntmps96
      go_wp2
      go_loopw [1, 5] (fun l i wr => ∃ k y : Nat, k ≤ n ∧ i = .int .i64 k ∧ l = .int .i64 y ∧ y + (n + cntI (rs.take k)) ≤ x ∧ Below w.heap.size w wr ∧ Hid (∀ r ∈ rs.take k, InoSmall r.D)) (fun _ i _ => n - (intOf i).toNat)
      case atStart => exact ⟨0, x - n, Nat.zero_le _, rfl, by go_num, by simp [cntI]; omega, Below.refl _ _, fun q hq => by simp at hq⟩
      case round =>
        obtain ⟨k, y, hk, rfl, rfl, hy, hB, hall⟩ := hrel
        by_cases hkn : k < n
        · have hkl : k < rs.length := by rw [hn'.out]; exact hkn
          have hki : (k : Int) < (n : Int) := by omega
          obtain ⟨r, hrk⟩ : ∃ r, rs[k]? = some r := ⟨_, List.getElem?_eq_getElem hkl⟩
          obtain ⟨x6, xr⟩ := HC.out k r hrk
          have hcall := szInode_w r.D r.a1 r.a2 r.a3 r.c1 r.c2 r.c3 y wr (by omega) (HI.out r (List.mem_of_getElem? hrk)) (xr.keep hB)
          have hcn : cntI (rs.take (k + 1)) = cntI (rs.take k) + (r.D.data.length + r.D.ents.length + r.D.attrs.length) := by unfold cntI; rw [List.take_add_one, hrk]; simp
          have hnext : Hid (InoSmall r.D → ∀ q ∈ rs.take (k + 1), InoSmall q.D) := by
            intro h q hq
            rw [List.take_add_one, hrk] at hq
            simp only [Option.toList_some, List.mem_append, List.mem_singleton] at hq
            rcases hq with hq | rfl
            · exact hall.out q hq
            · exact h
          have z6 := x6.keep hB hlt
          obtain ⟨x0, x1, x2, x3, x4, x5⟩ := z6
          unfold inoV at hcall
          have hwz := hB.size
          obtain ⟨n1, hn1⟩ : ∃ n, r.D.data.length = n := ⟨_, rfl⟩
          obtain ⟨n2, hn2⟩ : ∃ n, r.D.ents.length = n := ⟨_, rfl⟩
          obtain ⟨n3, hn3⟩ : ∃ n, r.D.attrs.length = n := ⟨_, rfl⟩
          rw [hn1] at x3 hcall
          rw [hn1, hn2, hn3] at hcn
          have HCN : Hid _ := hcn
          clear hcn
          rw [hn2] at x4 hcall
          rw [hn3] at x5 hcall
          clear x6 xr hall hn1 hn2 hn3 hrk hkl
          go_wp2_with fail
          refine hcall.mono ?_
          rintro e w1 ⟨(rfl | ⟨v, hv, rfl, hzz⟩), hb1⟩
          · go_wp2
            go_ret
            exact ⟨.inl rfl, hB.trans (hb1.mono hwz)⟩
          · have hnx : Hid _ := hnext.out hzz
            clear x0 x1 x2 x3 x4 x5 hcall
            go_wp2
            go_roundw
            case rel => exact ⟨k + 1, v, by omega, by go_num, rfl, by have := HCN.out; omega, hB.trans (hb1.mono hwz), hnx⟩
            case measure => simp [intOf]; omega
        · have hki : ¬ (k : Int) < (n : Int) := by omega
          go_wp2
          go_ret
          rw [List.take_of_length_le (by rw [hn'.out]; omega)] at hy
          refine ⟨.inr ⟨y, hy, rfl, by omega, ?_⟩, hB⟩
          have := hall.out
          rw [List.take_of_length_le (by rw [hn'.out]; omega)] at this
          exact this
set_option maxHeartbeats 800000 in
theorem szTab_w (a : Option Addr) (n cap x : Nat) (nx : Int) (rs : List InoR) (w : World) (hn : rs.length = n) (hm : n ≤ maxLen) (hx : x ≤ 1048576) (hin : ∀ r ∈ rs, InoIn r.D) (hr : RdI w a rs) :
    Calls Tryz.prog 75 #[.agg #[.slice a n cap, .int .i64 nx], .int .i64 x] w fun e w' => SzQ x (n + cntI rs) (n ≤ 1048576 ∧ ∀ r ∈ rs, InoSmall r.D) e ∧ Below w.heap.size w w' := by
  have B0 : Below w.heap.size w (w.alloc (.cells #[.slice a n cap, .int .i64 nx] 77)) := (Below.refl _ w).alloc (Nat.le_refl _) _
  have hcall := szInodeS_w a n cap x rs (w.alloc (.cells #[.slice a n cap, .int .i64 nx] 77)) hn hm hx hin (hr.keep B0)
  have HB : Hid _ := B0
  clear hin hr hn hm
  go_enter Tryz.func75, Tryz.ntmps75
  go_wp2_with fail
  refine hcall.mono ?_
  rintro e w1 ⟨(rfl | ⟨v, hv, rfl, hzz⟩), hb1⟩
  · go_wp2
    go_ret
    exact ⟨.inl rfl, HB.out.trans (hb1.mono HB.out.size)⟩
  · have hz : Hid _ := hzz
    clear hzz
    go_wp2
    go_ret
    exact ⟨.inr ⟨v, hv, rfl, hz.out⟩, HB.out.trans (hb1.mono HB.out.size)⟩
end

section
open Go.RowKit
theorem OwnI.rds {w : World} {g n cap : Nat} {rs : List InoR} (h : OwnI w g n cap rs) (hr : ∀ r ∈ rs, r.rd w) : RdI w (some ⟨g, 0, none⟩) rs :=
  .inr ⟨g, 0, rfl, fun i r hi => by
    rw [Nat.zero_add]
    exact ⟨h.six i r hi, hr r (List.mem_of_getElem? hi)⟩⟩
end
end Go.Proofs.YtfjlemnohjnkhaaGreat
