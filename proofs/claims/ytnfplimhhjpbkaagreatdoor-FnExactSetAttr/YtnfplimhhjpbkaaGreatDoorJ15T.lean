/-
  Joined: AtS2, AtI, AtW.
-/
import Derived.Test.YtnfplimhhjpbkaaGreatDoorJ12T
import Derived.Test.YtnfplimhhjpbkaaGreatDoorCopyIT
namespace Go.Proofs.YtnfplimhhjpbkaaGreatDoor
section
open Go.RowKit
/-- The answer stored in the result's box. -/
theorem at_stored {w W : World} {lo : Nat} {D : InoD} {v1 v2 v3 : Value} {os : Array Value} (hb : Below w.heap.size w W) (hg : InoG W lo W.heap.size D v1 v2 v3) (_ : Blk W (w.heap.size + 1) 66 os) (hlo : w.heap.size + 1 < lo) (u0 u1 u2 u3 u4 u5 : Value) :
    InoG ((((((W.setCell ⟨w.heap.size + 1, 0, none⟩ u0).setCell ⟨w.heap.size + 1, 1, none⟩ u1).setCell ⟨w.heap.size + 1, 2, none⟩ u2).setCell ⟨w.heap.size + 1, 3, none⟩ u3).setCell ⟨w.heap.size + 1, 4, none⟩ u4).setCell ⟨w.heap.size + 1, 5, none⟩ u5) w.heap.size ((((((W.setCell ⟨w.heap.size + 1, 0, none⟩ u0).setCell ⟨w.heap.size + 1, 1, none⟩ u1).setCell ⟨w.heap.size + 1, 2, none⟩ u2).setCell ⟨w.heap.size + 1, 3, none⟩ u3).setCell ⟨w.heap.size + 1, 4, none⟩ u4).setCell ⟨w.heap.size + 1, 5, none⟩ u5).heap.size D v1 v2 v3 ∧
    Below w.heap.size w ((((((W.setCell ⟨w.heap.size + 1, 0, none⟩ u0).setCell ⟨w.heap.size + 1, 1, none⟩ u1).setCell ⟨w.heap.size + 1, 2, none⟩ u2).setCell ⟨w.heap.size + 1, 3, none⟩ u3).setCell ⟨w.heap.size + 1, 4, none⟩ u4).setCell ⟨w.heap.size + 1, 5, none⟩ u5) := by
  have g : W.grownBy ((((((W.setCell ⟨w.heap.size + 1, 0, none⟩ u0).setCell ⟨w.heap.size + 1, 1, none⟩ u1).setCell ⟨w.heap.size + 1, 2, none⟩ u2).setCell ⟨w.heap.size + 1, 3, none⟩ u3).setCell ⟨w.heap.size + 1, 4, none⟩ u4).setCell ⟨w.heap.size + 1, 5, none⟩ u5) (some (w.heap.size + 1)) := gr_more (gr_more (gr_more (gr_more (gr_more (gr_setC W _ 0 _) 1 _) 2 _) 3 _) 4 _) 5 _
  exact ⟨(hg.kept fun b h1 h2 => g.block b h2 (by simp; omega)).wider (by omega) g.size, hb.grown g hb.size (fun m hm => by simp at hm; omega)⟩
theorem inoG_zero (w : World) (B T : Nat) : InoG w B T inoZ.D (.slice none 0 0) (.slice none 0 0) (.slice none 0 0) :=
  ⟨⟨rfl, .inl ⟨rfl, rfl⟩⟩, fun z hz => by simp [inoZ] at hz, ⟨rfl, .inl ⟨rfl, rfl⟩⟩, ⟨rfl, .inl ⟨rfl, rfl⟩⟩, fun g hg => by simp [Value.ownBlock] at hg⟩
set_option maxRecDepth 100000 in
set_option maxHeartbeats 2000000 in
theorem inodeAtS (a : Option Addr) (n cap : Nat) (nx x : Int) (rs : List InoR) (w : World) (hn : rs.length = n) (hs : n ≤ 4000000) (hsm : ∀ r ∈ rs, InoSmall r.D) (hr : RdI w a rs) :
    Calls Tryz.prog 136 #[.agg #[.slice a n cap, .int .i64 nx], .int .i64 x] w fun e w' => AtPost w rs x e w' := by
  have B0 : Below w.heap.size w ((w.alloc (.cells #[.slice a n cap, .int .i64 nx] 26)).alloc (.cells #[.int .i64 0, .int .i64 0, .int .i64 0, .slice none 0 0, .slice none 0 0, .slice none 0 0] 66)) := ((Below.refl _ w).alloc (Nat.le_refl _) _).alloc (by simp) _
  have zT : Blk ((w.alloc (.cells #[.slice a n cap, .int .i64 nx] 26)).alloc (.cells #[.int .i64 0, .int .i64 0, .int .i64 0, .slice none 0 0, .slice none 0 0, .slice none 0 0] 66)) w.heap.size 26 #[.slice a n cap, .int .i64 nx] := (Blk.new w _ _).alloc _
  have zR := Blk.new (w.alloc (.cells #[.slice a n cap, .int .i64 nx] 26)) 66 #[.int .i64 0, .int .i64 0, .int .i64 0, .slice none 0 0, .slice none 0 0, .slice none 0 0]
  simp only [World.size_alloc] at zR
  have hsz : ((w.alloc (.cells #[.slice a n cap, .int .i64 nx] 26)).alloc (.cells #[.int .i64 0, .int .i64 0, .int .i64 0, .slice none 0 0, .slice none 0 0, .slice none 0 0] 66)).heap.size = w.heap.size + 1 + 1 := by simp
  have hn' : Hid (rs.length = n) := hn
  cases hfa : firstAt (inos rs) x with
  | none =>
    have hp : Hid (∀ (e : Ending) (w' : World), e = .returned (.tuple #[.agg #[.int .i64 0, .int .i64 0, .int .i64 0, .slice none 0 0, .slice none 0 0, .slice none 0 0], .bool false]) → Below w.heap.size w w' → AtPost w rs x e w') := by
      intro e w' he hb
      have hD : atD rs x = inoZ.D := by unfold atD; rw [hfa]
      have hB : atB rs x = false := by unfold atB; rw [hfa]; rfl
      unfold AtPost
      rw [hD, hB]
      exact ⟨none, 0, none, 0, none, 0, he, inoG_zero _ _ _, hb⟩
    have hN : atN rs x = -1 := by unfold atN; rw [hfa]
    generalize AtPost w rs x = P at hp ⊢
    go_enter Tryz.func136, Tryz.ntmps136
    go_wp2_with fail
    obtain ⟨W0, hW0⟩ : ∃ W, ((w.alloc (.cells #[.slice a n cap, .int .i64 nx] 26)).alloc (.cells #[.int .i64 0, .int .i64 0, .int .i64 0, .slice none 0 0, .slice none 0 0, .slice none 0 0] 66)) = W := ⟨_, rfl⟩
    rw [hW0] at B0 zT zR hsz ⊢
    clear hW0
    have hcL := l4At_any a n cap nx x rs W0 hn hs (hr.keep B0)
    rw [hN] at hcL
    have HF : Hid _ := hfa
    clear hn hsm hr hN hfa
    (with_reducible refine hcL.mono ?_)
    rintro e w1 ⟨rfl, b1⟩
    have zr := zR.keep b1
    obtain ⟨t0, t1, t2, t3, t4, t5⟩ := zr.six
    have fz0 := zr.frozen 0
    have fz1 := zr.frozen 1
    have fz2 := zr.frozen 2
    have fz3 := zr.frozen 3
    have fz4 := zr.frozen 4
    have fz5 := zr.frozen 5
    have HG : Hid _ := And.intro zr (B0.trans (b1.mono B0.size))
    clear zr zR zT B0 b1 hcL
    go_wp2
    have zf := ((((((show Blk w1 (w.heap.size + 1) 66 _ from HG.out.1).set 0 (.int .i64 0)).set 1 (.int .i64 0)).set 2 (.int .i64 0)).set 3 (.slice none 0 0)).set 4 (.slice none 0 0)).set 5 (.slice none 0 0)
    have dd0 := zf.cell 0
    have dd1 := zf.cell 1
    have dd2 := zf.cell 2
    have dd3 := zf.cell 3
    have dd4 := zf.cell 4
    have dd5 := zf.cell 5
    simp at dd0 dd1 dd2 dd3 dd4 dd5
    refine bodyPost_ret (v := .tuple #[.agg #[.int .i64 0, .int .i64 0, .int .i64 0, .slice none 0 0, .slice none 0 0, .slice none 0 0], .bool false]) (by simp [results, Tryz.f136, go_sem, dd0, dd1, dd2, dd3, dd4, dd5]) rfl ?_
    exact hp.out _ _ rfl (at_stored HG.out.2 (inoG_zero w1 (w.heap.size + 1 + 1) w1.heap.size) HG.out.1 (Nat.lt_succ_self _) _ _ _ _ _ _).2
  | some p =>
    have hpl := firstAt_in hfa
    obtain ⟨r, hrp⟩ : ∃ r, rs[p]? = some r := ⟨_, List.getElem?_eq_getElem hpl⟩
    have hp : Hid (∀ (e : Ending) (w' : World) (b1 : Option Addr) (d1 : Nat) (b2 : Option Addr) (d2 : Nat) (b3 : Option Addr) (d3 : Nat), e = .returned (.tuple #[.agg #[.int .i64 r.D.ino, .int .i64 r.D.kind, .int .i64 r.D.links, .slice b1 r.D.data.length d1, .slice b2 r.D.ents.length d2, .slice b3 r.D.attrs.length d3], .bool true]) → InoG w' w.heap.size w'.heap.size r.D (.slice b1 r.D.data.length d1) (.slice b2 r.D.ents.length d2) (.slice b3 r.D.attrs.length d3) → Below w.heap.size w w' → AtPost w rs x e w') := by
      intro e w' b1 d1 b2 d2 b3 d3 he hg hb
      have hD : atD rs x = r.D := by unfold atD; rw [hfa]; simp [List.getD_eq_getElem?_getD, hrp]
      have hB : atB rs x = true := by unfold atB; rw [hfa]; rfl
      unfold AtPost
      rw [hD, hB]
      exact ⟨b1, d1, b2, d2, b3, d3, he, hg, hb⟩
    have hN : atN rs x = (p : Int) := by unfold atN; rw [hfa]
    have hpn : p < n := by omega
    have hpi : (p : Int) < (n : Int) := by omega
    have hpp : (0 : Int) ≤ (p : Int) := by omega
    have hpq : ¬ (p : Int) < 0 := by omega
    generalize AtPost w rs x = P at hp ⊢
    go_enter Tryz.func136, Tryz.ntmps136
    go_wp2_with fail
    obtain ⟨W0, hW0⟩ : ∃ W, ((w.alloc (.cells #[.slice a n cap, .int .i64 nx] 26)).alloc (.cells #[.int .i64 0, .int .i64 0, .int .i64 0, .slice none 0 0, .slice none 0 0, .slice none 0 0] 66)) = W := ⟨_, rfl⟩
    rw [hW0] at B0 zT zR hsz ⊢
    clear hW0
    have hr0 := hr.keep B0
    have hcL := l4At_any a n cap nx x rs W0 hn hs hr0
    rw [hN] at hcL
    have hsr := hsm r (List.mem_of_getElem? hrp)
    have HF : Hid _ := hfa
    have HQ : Hid _ := hrp
    have HP : Hid _ := hpl
    clear hsm hr hN hfa hrp hpl hn
    (with_reducible refine hcL.mono ?_)
    rintro e w1 ⟨rfl, b1⟩
    have zt := (zT.keep b1).cell 0
    simp at zt
    obtain ⟨b, off, rfl, hlt, hc⟩ := (hr0.keep b1).lt (by intro h; have := hn'.out; rw [h] at this; simp at this; omega)
    obtain ⟨⟨x0, x1, x2, x3, x4, x5⟩, xr⟩ := hc p r HQ.out
    have hcC := l3Copy_any r.D r.a1 r.a2 r.a3 r.c1 r.c2 r.c3 w1 hsr xr
    have HG1 : Hid _ := And.intro (zR.keep b1) (And.intro (B0.trans (b1.mono B0.size)) b1.size)
    have HSZ : Hid _ := hsz
    clear zR zT B0 b1 hcL hc hr0 hsz
    go_wp2_with fail
    (with_reducible refine hcC.mono ?_)
    rintro e w2 ⟨b1, d1, b2, d2, b3, d3, rfl, g2, bb2⟩
    have zr := Blk.keep HG1.out.1 bb2
    obtain ⟨t0, t1, t2, t3, t4, t5⟩ := zr.six
    have fz0 := zr.frozen 0
    have fz1 := zr.frozen 1
    have fz2 := zr.frozen 2
    have fz3 := zr.frozen 3
    have fz4 := zr.frozen 4
    have fz5 := zr.frozen 5
    have HG : Hid _ := And.intro zr (And.intro (HG1.out.2.1.trans (bb2.mono HG1.out.2.1.size)) g2)
    clear zr g2 bb2 hcC x0 x1 x2 x3 x4 x5 zt
    go_wp2
    have zf := ((((((show Blk w2 (w.heap.size + 1) 66 _ from HG.out.1).set 0 (.int .i64 r.D.ino)).set 1 (.int .i64 r.D.kind)).set 2 (.int .i64 r.D.links)).set 3 (.slice b1 r.D.data.length d1)).set 4 (.slice b2 r.D.ents.length d2)).set 5 (.slice b3 r.D.attrs.length d3)
    have dd0 := zf.cell 0
    have dd1 := zf.cell 1
    have dd2 := zf.cell 2
    have dd3 := zf.cell 3
    have dd4 := zf.cell 4
    have dd5 := zf.cell 5
    simp at dd0 dd1 dd2 dd3 dd4 dd5
    refine bodyPost_ret (v := .tuple #[.agg #[.int .i64 r.D.ino, .int .i64 r.D.kind, .int .i64 r.D.links, .slice b1 r.D.data.length d1, .slice b2 r.D.ents.length d2, .slice b3 r.D.attrs.length d3], .bool true]) (by simp [results, Tryz.f136, go_sem, dd0, dd1, dd2, dd3, dd4, dd5]) rfl ?_
    have hst := at_stored HG.out.2.1 HG.out.2.2 HG.out.1 (by have := HG1.out.2.2; have := HSZ.out; omega) (.int .i64 r.D.ino) (.int .i64 r.D.kind) (.int .i64 r.D.links) (.slice b1 r.D.data.length d1) (.slice b2 r.D.ents.length d2) (.slice b3 r.D.attrs.length d3)
    exact hp.out _ _ _ _ _ _ _ _ rfl hst.1 hst.2
end

section
open Go.RowKit Go.Maps
set_option maxRecDepth 100000 in
set_option maxHeartbeats 2000000 in
theorem inodeAtI (a : Option Addr) (n cap : Nat) (nx x : Int) (rs : List InoR) (w : World) (hn : rs.length = n) (hs : n ≤ 4000000) (hwx : (Lit.int .i64 x).wf = true) (hwf : ∀ r ∈ rs, (Lit.int .i64 r.D.ino).wf = true) (hsm : ∀ r ∈ rs, InoSmall r.D) (hr : RdI w a rs) :
    Calls Tryz.prog 156 #[.agg #[.slice a n cap, .int .i64 nx], .int .i64 x] w fun e w' => AtPost w rs x e w' := by
  have B0 : Below w.heap.size w ((w.alloc (.cells #[.slice a n cap, .int .i64 nx] 26)).alloc (.cells #[.int .i64 0, .int .i64 0, .int .i64 0, .slice none 0 0, .slice none 0 0, .slice none 0 0] 66)) := ((Below.refl _ w).alloc (Nat.le_refl _) _).alloc (by simp) _
  have zT : Blk ((w.alloc (.cells #[.slice a n cap, .int .i64 nx] 26)).alloc (.cells #[.int .i64 0, .int .i64 0, .int .i64 0, .slice none 0 0, .slice none 0 0, .slice none 0 0] 66)) w.heap.size 26 #[.slice a n cap, .int .i64 nx] := (Blk.new w _ _).alloc _
  have zR := Blk.new (w.alloc (.cells #[.slice a n cap, .int .i64 nx] 26)) 66 #[.int .i64 0, .int .i64 0, .int .i64 0, .slice none 0 0, .slice none 0 0, .slice none 0 0]
  simp only [World.size_alloc] at zR
  have hsz : ((w.alloc (.cells #[.slice a n cap, .int .i64 nx] 26)).alloc (.cells #[.int .i64 0, .int .i64 0, .int .i64 0, .slice none 0 0, .slice none 0 0, .slice none 0 0] 66)).heap.size = w.heap.size + 1 + 1 := by simp
  have hn' : Hid (rs.length = n) := hn
  have hkey : keyOf Tryz.prog 3 (.int .i64 x) = some (.int .i64 x) := keyOf_int_mk Tryz.underlying3 hwx
  cases hfa : firstAt (inos rs) x with
  | none =>
    have hp : Hid (∀ (e : Ending) (w' : World), e = .returned (.tuple #[.agg #[.int .i64 0, .int .i64 0, .int .i64 0, .slice none 0 0, .slice none 0 0, .slice none 0 0], .bool false]) → Below w.heap.size w w' → AtPost w rs x e w') := by
      intro e w' he hb
      have hD : atD rs x = inoZ.D := by unfold atD; rw [hfa]
      have hB : atB rs x = false := by unfold atB; rw [hfa]; rfl
      unfold AtPost
      rw [hD, hB]
      exact ⟨none, 0, none, 0, none, 0, he, inoG_zero _ _ _, hb⟩
    generalize AtPost w rs x = P at hp ⊢
    go_enter Tryz.func156, Tryz.ntmps156
    go_wp2_with fail
    obtain ⟨W0, hW0⟩ : ∃ W, ((w.alloc (.cells #[.slice a n cap, .int .i64 nx] 26)).alloc (.cells #[.int .i64 0, .int .i64 0, .int .i64 0, .slice none 0 0, .slice none 0 0, .slice none 0 0] 66)) = W := ⟨_, rfl⟩
    rw [hW0] at B0 zT zR hsz ⊢
    have HSZ : Hid _ := hsz
    clear hW0 hsz
    have hcL := byNumber_any a n cap nx rs W0 hn hs hwf (hr.keep B0)
    have HF : Hid _ := hfa
    clear hn hsm hr hwf hwx
    (with_reducible refine hcL.mono ?_)
    rintro e w1 ⟨cnt, D, rfl, hcnt, hM, hown, b1⟩
    have hhas : Maps.has D (.int .i64 x) = false := by rw [(hM.2 x).1, HF.out]; rfl
    clear hM hfa
    have zr := zR.keep b1
    obtain ⟨t0, t1, t2, t3, t4, t5⟩ := zr.six
    have fz0 := zr.frozen 0
    have fz1 := zr.frozen 1
    have fz2 := zr.frozen 2
    have fz3 := zr.frozen 3
    have fz4 := zr.frozen 4
    have fz5 := zr.frozen 5
    have HG : Hid _ := And.intro zr (B0.trans (b1.mono B0.size))
    clear zr zR zT B0 b1 hcL
    go_wp2_with (first
      | (at_lookup; refine wpList_lookup_own_ok_int _ rfl _ _ 80 rfl 3 3 .i64 Tryz.keyInt Tryz.underlying80 Tryz.underlying3 (Tryz.zeroInt _) (W0.heap.size + 1) cnt D rfl hown _ _ rfl hkey ?_; intro c hat hwc; rw [hhas])
      | go_in)
    have zf := ((((((show Blk w1 (w.heap.size + 1) 66 _ from HG.out.1).set 0 (.int .i64 0)).set 1 (.int .i64 0)).set 2 (.int .i64 0)).set 3 (.slice none 0 0)).set 4 (.slice none 0 0)).set 5 (.slice none 0 0)
    have dd0 := zf.cell 0
    have dd1 := zf.cell 1
    have dd2 := zf.cell 2
    have dd3 := zf.cell 3
    have dd4 := zf.cell 4
    have dd5 := zf.cell 5
    simp at dd0 dd1 dd2 dd3 dd4 dd5
    refine bodyPost_ret (v := .tuple #[.agg #[.int .i64 0, .int .i64 0, .int .i64 0, .slice none 0 0, .slice none 0 0, .slice none 0 0], .bool false]) (by simp [results, Tryz.f156, go_sem, dd0, dd1, dd2, dd3, dd4, dd5]) rfl ?_
    exact hp.out _ _ rfl (at_stored HG.out.2 (inoG_zero w1 (w.heap.size + 1 + 1) w1.heap.size) HG.out.1 (Nat.lt_succ_self _) _ _ _ _ _ _).2
  | some p =>
    have hpl := firstAt_in hfa
    obtain ⟨r, hrp⟩ : ∃ r, rs[p]? = some r := ⟨_, List.getElem?_eq_getElem hpl⟩
    have hp : Hid (∀ (e : Ending) (w' : World) (b1 : Option Addr) (d1 : Nat) (b2 : Option Addr) (d2 : Nat) (b3 : Option Addr) (d3 : Nat), e = .returned (.tuple #[.agg #[.int .i64 r.D.ino, .int .i64 r.D.kind, .int .i64 r.D.links, .slice b1 r.D.data.length d1, .slice b2 r.D.ents.length d2, .slice b3 r.D.attrs.length d3], .bool true]) → InoG w' w.heap.size w'.heap.size r.D (.slice b1 r.D.data.length d1) (.slice b2 r.D.ents.length d2) (.slice b3 r.D.attrs.length d3) → Below w.heap.size w w' → AtPost w rs x e w') := by
      intro e w' b1 d1 b2 d2 b3 d3 he hg hb
      have hD : atD rs x = r.D := by unfold atD; rw [hfa]; simp [List.getD_eq_getElem?_getD, hrp]
      have hB : atB rs x = true := by unfold atB; rw [hfa]; rfl
      unfold AtPost
      rw [hD, hB]
      exact ⟨b1, d1, b2, d2, b3, d3, he, hg, hb⟩
    have hpn : p < n := by omega
    have hpi : (p : Int) < (n : Int) := by omega
    have hpp : (0 : Int) ≤ (p : Int) := by omega
    have hpq : ¬ (p : Int) < 0 := by omega
    generalize AtPost w rs x = P at hp ⊢
    go_enter Tryz.func156, Tryz.ntmps156
    go_wp2_with fail
    obtain ⟨W0, hW0⟩ : ∃ W, ((w.alloc (.cells #[.slice a n cap, .int .i64 nx] 26)).alloc (.cells #[.int .i64 0, .int .i64 0, .int .i64 0, .slice none 0 0, .slice none 0 0, .slice none 0 0] 66)) = W := ⟨_, rfl⟩
    rw [hW0] at B0 zT zR hsz ⊢
    have HSZ : Hid _ := hsz
    clear hW0 hsz
    have hr0 := hr.keep B0
    have hcL := byNumber_any a n cap nx rs W0 hn hs hwf hr0
    have hsr := hsm r (List.mem_of_getElem? hrp)
    have HF : Hid _ := hfa
    have HQ : Hid _ := hrp
    have HP : Hid _ := hpl
    clear hsm hr hfa hrp hpl hn hwf hwx
    (with_reducible refine hcL.mono ?_)
    rintro e w1 ⟨cnt, D, rfl, hcnt, hM, hown, b1⟩
    have hhas : Maps.has D (.int .i64 x) = true := by rw [(hM.2 x).1, HF.out]; rfl
    have hat0 := (hM.2 x).2 p HF.out
    clear hM
    have zt := (zT.keep b1).cell 0
    simp at zt
    obtain ⟨b, off, rfl, hlt, hc⟩ := (hr0.keep b1).lt (by intro h; have := hn'.out; rw [h] at this; simp at this; omega)
    obtain ⟨⟨x0, x1, x2, x3, x4, x5⟩, xr⟩ := hc p r HQ.out
    have hcC := copyInode_any r.D r.a1 r.a2 r.a3 r.c1 r.c2 r.c3 w1 hsr xr
    have HG1 : Hid _ := And.intro (zR.keep b1) (And.intro (B0.trans (b1.mono B0.size)) b1.size)
    clear zR zT B0 b1 hcL hc hr0
    go_wp2_with (first
      | (at_lookup; refine wpList_lookup_own_ok_int _ rfl _ _ 80 rfl 3 3 .i64 Tryz.keyInt Tryz.underlying80 Tryz.underlying3 (Tryz.zeroInt _) (W0.heap.size + 1) cnt D rfl hown _ _ rfl hkey ?_; intro c hat hwc; rw [hhas]; rw [hat0] at hat; simp at hat; subst hat)
      | fail)
    (with_reducible refine hcC.mono ?_)
    rintro e w2 ⟨b1, d1, b2, d2, b3, d3, rfl, g2, bb2⟩
    have zr := Blk.keep HG1.out.1 bb2
    obtain ⟨t0, t1, t2, t3, t4, t5⟩ := zr.six
    have fz0 := zr.frozen 0
    have fz1 := zr.frozen 1
    have fz2 := zr.frozen 2
    have fz3 := zr.frozen 3
    have fz4 := zr.frozen 4
    have fz5 := zr.frozen 5
    have HG : Hid _ := And.intro zr (And.intro (HG1.out.2.1.trans (bb2.mono HG1.out.2.1.size)) g2)
    clear zr g2 bb2 hcC x0 x1 x2 x3 x4 x5 zt
    go_wp2
    have zf := ((((((show Blk w2 (w.heap.size + 1) 66 _ from HG.out.1).set 0 (.int .i64 r.D.ino)).set 1 (.int .i64 r.D.kind)).set 2 (.int .i64 r.D.links)).set 3 (.slice b1 r.D.data.length d1)).set 4 (.slice b2 r.D.ents.length d2)).set 5 (.slice b3 r.D.attrs.length d3)
    have dd0 := zf.cell 0
    have dd1 := zf.cell 1
    have dd2 := zf.cell 2
    have dd3 := zf.cell 3
    have dd4 := zf.cell 4
    have dd5 := zf.cell 5
    simp at dd0 dd1 dd2 dd3 dd4 dd5
    refine bodyPost_ret (v := .tuple #[.agg #[.int .i64 r.D.ino, .int .i64 r.D.kind, .int .i64 r.D.links, .slice b1 r.D.data.length d1, .slice b2 r.D.ents.length d2, .slice b3 r.D.attrs.length d3], .bool true]) (by simp [results, Tryz.f156, go_sem, dd0, dd1, dd2, dd3, dd4, dd5]) rfl ?_
    have hst := at_stored HG.out.2.1 HG.out.2.2 HG.out.1 (by have := HG1.out.2.2; have := HSZ.out; omega) (.int .i64 r.D.ino) (.int .i64 r.D.kind) (.int .i64 r.D.links) (.slice b1 r.D.data.length d1) (.slice b2 r.D.ents.length d2) (.slice b3 r.D.attrs.length d3)
    exact hp.out _ _ _ _ _ _ _ _ rfl hst.1 hst.2
end

section
open Go.RowKit
theorem inos_D (rs : List InoR) : inos rs = (rs.map InoR.D).map fun D => D.ino := by simp [inos]
def costD (D : InoD) : Nat := 3 + D.data.length + 2 * D.ents.length + 2 * D.attrs.length
theorem cost_sum (rs : List InoR) : ((rs.map InoR.D).map costD).sum ≤ 3 * rs.length + 2 * cntI rs := by
  unfold cntI
  induction rs with
  | nil => simp
  | cons r rs ih =>
    simp only [List.map_cons, List.sum_cons, List.length_cons]
    unfold costD at ih ⊢
    omega
end
end Go.Proofs.YtnfplimhhjpbkaaGreatDoor
