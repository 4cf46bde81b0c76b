/-
  Joined: AtS2, AtI, AtW, DropW, SetM.
-/
import Derived.Test.YtmfimoccemgoiaaGreatDoorCopyIB
namespace Go.Proofs.YtmfimoccemgoiaaGreatDoor
section
open Go.RowKit
/-- The answer stored in the result's box. -/
theorem at_stored {w W : World} {lo : Nat} {D : InoD} {v1 v2 v3 : Value} {os : Array Value} (hb : Below w.heap.size w W) (hg : InoG W lo W.heap.size D v1 v2 v3) (_ : Blk W (w.heap.size + 1) 68 os) (hlo : w.heap.size + 1 < lo) (u0 u1 u2 u3 u4 u5 : Value) :
    InoG ((((((W.setCell ⟨w.heap.size + 1, 0, none⟩ u0).setCell ⟨w.heap.size + 1, 1, none⟩ u1).setCell ⟨w.heap.size + 1, 2, none⟩ u2).setCell ⟨w.heap.size + 1, 3, none⟩ u3).setCell ⟨w.heap.size + 1, 4, none⟩ u4).setCell ⟨w.heap.size + 1, 5, none⟩ u5) w.heap.size ((((((W.setCell ⟨w.heap.size + 1, 0, none⟩ u0).setCell ⟨w.heap.size + 1, 1, none⟩ u1).setCell ⟨w.heap.size + 1, 2, none⟩ u2).setCell ⟨w.heap.size + 1, 3, none⟩ u3).setCell ⟨w.heap.size + 1, 4, none⟩ u4).setCell ⟨w.heap.size + 1, 5, none⟩ u5).heap.size D v1 v2 v3 ∧
    Below w.heap.size w ((((((W.setCell ⟨w.heap.size + 1, 0, none⟩ u0).setCell ⟨w.heap.size + 1, 1, none⟩ u1).setCell ⟨w.heap.size + 1, 2, none⟩ u2).setCell ⟨w.heap.size + 1, 3, none⟩ u3).setCell ⟨w.heap.size + 1, 4, none⟩ u4).setCell ⟨w.heap.size + 1, 5, none⟩ u5) := by
  have g : W.grownBy ((((((W.setCell ⟨w.heap.size + 1, 0, none⟩ u0).setCell ⟨w.heap.size + 1, 1, none⟩ u1).setCell ⟨w.heap.size + 1, 2, none⟩ u2).setCell ⟨w.heap.size + 1, 3, none⟩ u3).setCell ⟨w.heap.size + 1, 4, none⟩ u4).setCell ⟨w.heap.size + 1, 5, none⟩ u5) (some (w.heap.size + 1)) := gr_more (gr_more (gr_more (gr_more (gr_more (gr_setC W _ 0 _) 1 _) 2 _) 3 _) 4 _) 5 _
  exact ⟨(hg.kept fun b h1 h2 => g.block b h2 (by simp; omega)).wider (by omega) g.size, hb.grown g hb.size (fun m hm => by simp at hm; omega)⟩
theorem inoG_zero (w : World) (B T : Nat) : InoG w B T inoZ.D (.slice none 0 0) (.slice none 0 0) (.slice none 0 0) :=
  ⟨⟨rfl, .inl ⟨rfl, rfl⟩⟩, fun z hz => by simp [inoZ] at hz, ⟨rfl, .inl ⟨rfl, rfl⟩⟩, ⟨rfl, .inl ⟨rfl, rfl⟩⟩, fun g hg => by simp [Value.ownBlock] at hg⟩
set_option maxRecDepth 100000 in
set_option maxHeartbeats 2000000 in
theorem inodeAtS (a : Option Addr) (n cap : Nat) (nx x : Int) (rs : List InoR) (w : World) (hn : rs.length = n) (hs : n ≤ 4000000) (hsm : ∀ r ∈ rs, InoSmall r.D) (hr : RdI w a rs) :
    Calls Tryz.prog 125 #[.agg #[.slice a n cap, .int .i64 nx], .int .i64 x] w fun e w' => AtPost w rs x e w' := by
  have B0 : Below w.heap.size w ((w.alloc (.cells #[.slice a n cap, .int .i64 nx] 28)).alloc (.cells #[.int .i64 0, .int .i64 0, .int .i64 0, .slice none 0 0, .slice none 0 0, .slice none 0 0] 68)) := ((Below.refl _ w).alloc (Nat.le_refl _) _).alloc (by simp) _
  have zT : Blk ((w.alloc (.cells #[.slice a n cap, .int .i64 nx] 28)).alloc (.cells #[.int .i64 0, .int .i64 0, .int .i64 0, .slice none 0 0, .slice none 0 0, .slice none 0 0] 68)) w.heap.size 28 #[.slice a n cap, .int .i64 nx] := (Blk.new w _ _).alloc _
  have zR := Blk.new (w.alloc (.cells #[.slice a n cap, .int .i64 nx] 28)) 68 #[.int .i64 0, .int .i64 0, .int .i64 0, .slice none 0 0, .slice none 0 0, .slice none 0 0]
  simp only [World.size_alloc] at zR
  have hsz : ((w.alloc (.cells #[.slice a n cap, .int .i64 nx] 28)).alloc (.cells #[.int .i64 0, .int .i64 0, .int .i64 0, .slice none 0 0, .slice none 0 0, .slice none 0 0] 68)).heap.size = w.heap.size + 1 + 1 := by simp
  have hn' : Hid (rs.length = n) := hn
  cases hfa : firstAt (inos rs) x with
  | none =>
    have hp : Hid (∀ (e : Ending) (w' : World), e = .returned (.tuple #[.agg #[.int .i64 0, .int .i64 0, .int .i64 0, .slice none 0 0, .slice none 0 0, .slice none 0 0], .bool false]) → Below w.heap.size w w' → AtPost w rs x e w') := by
      intro e w' he hb
      have hD : atD rs x = inoZ.D := by unfold atD; rw [hfa]
      have hB : atB rs x = false := by unfold atB; rw [hfa]; rfl
      unfold AtPost
      rw [hD, hB]
      exact ⟨none, 0, none, 0, none, 0, he, inoG_zero _ _ _, hb⟩
    have hN : atN rs x = -1 := by unfold atN; rw [hfa]
    generalize AtPost w rs x = P at hp ⊢
    go_enter Tryz.func125, Tryz.ntmps125
    go_wp2_with fail
    obtain ⟨W0, hW0⟩ : ∃ W, ((w.alloc (.cells #[.slice a n cap, .int .i64 nx] 28)).alloc (.cells #[.int .i64 0, .int .i64 0, .int .i64 0, .slice none 0 0, .slice none 0 0, .slice none 0 0] 68)) = W := ⟨_, rfl⟩
    rw [hW0] at B0 zT zR hsz ⊢
    clear hW0
    have hcL := l4At_any a n cap nx x rs W0 hn hs (hr.keep B0)
    rw [hN] at hcL
    have HF : Hid _ := hfa
    clear hn hsm hr hN hfa
    (with_reducible refine hcL.mono ?_)
    rintro e w1 ⟨rfl, b1⟩
    have zr := zR.keep b1
    obtain ⟨t0, t1, t2, t3, t4, t5⟩ := zr.six
    have fz0 := zr.frozen 0
    have fz1 := zr.frozen 1
    have fz2 := zr.frozen 2
    have fz3 := zr.frozen 3
    have fz4 := zr.frozen 4
    have fz5 := zr.frozen 5
    have HG : Hid _ := And.intro zr (B0.trans (b1.mono B0.size))
    clear zr zR zT B0 b1 hcL
    go_wp2
    have zf := ((((((show Blk w1 (w.heap.size + 1) 68 _ from HG.out.1).set 0 (.int .i64 0)).set 1 (.int .i64 0)).set 2 (.int .i64 0)).set 3 (.slice none 0 0)).set 4 (.slice none 0 0)).set 5 (.slice none 0 0)
    have dd0 := zf.cell 0
    have dd1 := zf.cell 1
    have dd2 := zf.cell 2
    have dd3 := zf.cell 3
    have dd4 := zf.cell 4
    have dd5 := zf.cell 5
    simp at dd0 dd1 dd2 dd3 dd4 dd5
    refine bodyPost_ret (v := .tuple #[.agg #[.int .i64 0, .int .i64 0, .int .i64 0, .slice none 0 0, .slice none 0 0, .slice none 0 0], .bool false]) (by simp [results, Tryz.f125, go_sem, dd0, dd1, dd2, dd3, dd4, dd5]) rfl ?_
    exact hp.out _ _ rfl (at_stored HG.out.2 (inoG_zero w1 (w.heap.size + 1 + 1) w1.heap.size) HG.out.1 (Nat.lt_succ_self _) _ _ _ _ _ _).2
  | some p =>
    have hpl := firstAt_in hfa
    obtain ⟨r, hrp⟩ : ∃ r, rs[p]? = some r := ⟨_, List.getElem?_eq_getElem hpl⟩
    have hp : Hid (∀ (e : Ending) (w' : World) (b1 : Option Addr) (d1 : Nat) (b2 : Option Addr) (d2 : Nat) (b3 : Option Addr) (d3 : Nat), e = .returned (.tuple #[.agg #[.int .i64 r.D.ino, .int .i64 r.D.kind, .int .i64 r.D.links, .slice b1 r.D.data.length d1, .slice b2 r.D.ents.length d2, .slice b3 r.D.attrs.length d3], .bool true]) → InoG w' w.heap.size w'.heap.size r.D (.slice b1 r.D.data.length d1) (.slice b2 r.D.ents.length d2) (.slice b3 r.D.attrs.length d3) → Below w.heap.size w w' → AtPost w rs x e w') := by
      intro e w' b1 d1 b2 d2 b3 d3 he hg hb
      have hD : atD rs x = r.D := by unfold atD; rw [hfa]; simp [List.getD_eq_getElem?_getD, hrp]
      have hB : atB rs x = true := by unfold atB; rw [hfa]; rfl
      unfold AtPost
      rw [hD, hB]
      exact ⟨b1, d1, b2, d2, b3, d3, he, hg, hb⟩
    have hN : atN rs x = (p : Int) := by unfold atN; rw [hfa]
    have hpn : p < n := by omega
    have hpi : (p : Int) < (n : Int) := by omega
    have hpp : (0 : Int) ≤ (p : Int) := by omega
    have hpq : ¬ (p : Int) < 0 := by omega
    generalize AtPost w rs x = P at hp ⊢
    go_enter Tryz.func125, Tryz.ntmps125
    go_wp2_with fail
    obtain ⟨W0, hW0⟩ : ∃ W, ((w.alloc (.cells #[.slice a n cap, .int .i64 nx] 28)).alloc (.cells #[.int .i64 0, .int .i64 0, .int .i64 0, .slice none 0 0, .slice none 0 0, .slice none 0 0] 68)) = W := ⟨_, rfl⟩
    rw [hW0] at B0 zT zR hsz ⊢
    clear hW0
    have hr0 := hr.keep B0
    have hcL := l4At_any a n cap nx x rs W0 hn hs hr0
    rw [hN] at hcL
    have hsr := hsm r (List.mem_of_getElem? hrp)
    have HF : Hid _ := hfa
    have HQ : Hid _ := hrp
    have HP : Hid _ := hpl
    clear hsm hr hN hfa hrp hpl hn
    (with_reducible refine hcL.mono ?_)
    rintro e w1 ⟨rfl, b1⟩
    have zt := (zT.keep b1).cell 0
    simp at zt
    obtain ⟨b, off, rfl, hlt, hc⟩ := (hr0.keep b1).lt (by intro h; have := hn'.out; rw [h] at this; simp at this; omega)
    obtain ⟨⟨x0, x1, x2, x3, x4, x5⟩, xr⟩ := hc p r HQ.out
    have hcC := l3Copy_any r.D r.a1 r.a2 r.a3 r.c1 r.c2 r.c3 w1 hsr xr
    have HG1 : Hid _ := And.intro (zR.keep b1) (And.intro (B0.trans (b1.mono B0.size)) b1.size)
    have HSZ : Hid _ := hsz
    clear zR zT B0 b1 hcL hc hr0 hsz
    go_wp2_with fail
    (with_reducible refine hcC.mono ?_)
    rintro e w2 ⟨b1, d1, b2, d2, b3, d3, rfl, g2, bb2⟩
    have zr := Blk.keep HG1.out.1 bb2
    obtain ⟨t0, t1, t2, t3, t4, t5⟩ := zr.six
    have fz0 := zr.frozen 0
    have fz1 := zr.frozen 1
    have fz2 := zr.frozen 2
    have fz3 := zr.frozen 3
    have fz4 := zr.frozen 4
    have fz5 := zr.frozen 5
    have HG : Hid _ := And.intro zr (And.intro (HG1.out.2.1.trans (bb2.mono HG1.out.2.1.size)) g2)
    clear zr g2 bb2 hcC x0 x1 x2 x3 x4 x5 zt
    go_wp2
    have zf := ((((((show Blk w2 (w.heap.size + 1) 68 _ from HG.out.1).set 0 (.int .i64 r.D.ino)).set 1 (.int .i64 r.D.kind)).set 2 (.int .i64 r.D.links)).set 3 (.slice b1 r.D.data.length d1)).set 4 (.slice b2 r.D.ents.length d2)).set 5 (.slice b3 r.D.attrs.length d3)
    have dd0 := zf.cell 0
    have dd1 := zf.cell 1
    have dd2 := zf.cell 2
    have dd3 := zf.cell 3
    have dd4 := zf.cell 4
    have dd5 := zf.cell 5
    simp at dd0 dd1 dd2 dd3 dd4 dd5
    refine bodyPost_ret (v := .tuple #[.agg #[.int .i64 r.D.ino, .int .i64 r.D.kind, .int .i64 r.D.links, .slice b1 r.D.data.length d1, .slice b2 r.D.ents.length d2, .slice b3 r.D.attrs.length d3], .bool true]) (by simp [results, Tryz.f125, go_sem, dd0, dd1, dd2, dd3, dd4, dd5]) rfl ?_
    have hst := at_stored HG.out.2.1 HG.out.2.2 HG.out.1 (by have := HG1.out.2.2; have := HSZ.out; omega) (.int .i64 r.D.ino) (.int .i64 r.D.kind) (.int .i64 r.D.links) (.slice b1 r.D.data.length d1) (.slice b2 r.D.ents.length d2) (.slice b3 r.D.attrs.length d3)
    exact hp.out _ _ _ _ _ _ _ _ rfl hst.1 hst.2
end

section
open Go.RowKit Go.Maps
set_option maxRecDepth 100000 in
set_option maxHeartbeats 2000000 in
theorem inodeAtI (a : Option Addr) (n cap : Nat) (nx x : Int) (rs : List InoR) (w : World) (hn : rs.length = n) (hs : n ≤ 4000000) (hwx : (Lit.int .i64 x).wf = true) (hwf : ∀ r ∈ rs, (Lit.int .i64 r.D.ino).wf = true) (hsm : ∀ r ∈ rs, InoSmall r.D) (hr : RdI w a rs) :
    Calls Tryz.prog 159 #[.agg #[.slice a n cap, .int .i64 nx], .int .i64 x] w fun e w' => AtPost w rs x e w' := by
  have B0 : Below w.heap.size w ((w.alloc (.cells #[.slice a n cap, .int .i64 nx] 28)).alloc (.cells #[.int .i64 0, .int .i64 0, .int .i64 0, .slice none 0 0, .slice none 0 0, .slice none 0 0] 68)) := ((Below.refl _ w).alloc (Nat.le_refl _) _).alloc (by simp) _
  have zT : Blk ((w.alloc (.cells #[.slice a n cap, .int .i64 nx] 28)).alloc (.cells #[.int .i64 0, .int .i64 0, .int .i64 0, .slice none 0 0, .slice none 0 0, .slice none 0 0] 68)) w.heap.size 28 #[.slice a n cap, .int .i64 nx] := (Blk.new w _ _).alloc _
  have zR := Blk.new (w.alloc (.cells #[.slice a n cap, .int .i64 nx] 28)) 68 #[.int .i64 0, .int .i64 0, .int .i64 0, .slice none 0 0, .slice none 0 0, .slice none 0 0]
  simp only [World.size_alloc] at zR
  have hsz : ((w.alloc (.cells #[.slice a n cap, .int .i64 nx] 28)).alloc (.cells #[.int .i64 0, .int .i64 0, .int .i64 0, .slice none 0 0, .slice none 0 0, .slice none 0 0] 68)).heap.size = w.heap.size + 1 + 1 := by simp
  have hn' : Hid (rs.length = n) := hn
  have hkey : keyOf Tryz.prog 3 (.int .i64 x) = some (.int .i64 x) := keyOf_int_mk Tryz.underlying3 hwx
  cases hfa : firstAt (inos rs) x with
  | none =>
    have hp : Hid (∀ (e : Ending) (w' : World), e = .returned (.tuple #[.agg #[.int .i64 0, .int .i64 0, .int .i64 0, .slice none 0 0, .slice none 0 0, .slice none 0 0], .bool false]) → Below w.heap.size w w' → AtPost w rs x e w') := by
      intro e w' he hb
      have hD : atD rs x = inoZ.D := by unfold atD; rw [hfa]
      have hB : atB rs x = false := by unfold atB; rw [hfa]; rfl
      unfold AtPost
      rw [hD, hB]
      exact ⟨none, 0, none, 0, none, 0, he, inoG_zero _ _ _, hb⟩
    generalize AtPost w rs x = P at hp ⊢
    go_enter Tryz.func159, Tryz.ntmps159
    go_wp2_with fail
    obtain ⟨W0, hW0⟩ : ∃ W, ((w.alloc (.cells #[.slice a n cap, .int .i64 nx] 28)).alloc (.cells #[.int .i64 0, .int .i64 0, .int .i64 0, .slice none 0 0, .slice none 0 0, .slice none 0 0] 68)) = W := ⟨_, rfl⟩
    rw [hW0] at B0 zT zR hsz ⊢
    have HSZ : Hid _ := hsz
    clear hW0 hsz
    have hcL := byNumber_any a n cap nx rs W0 hn hs hwf (hr.keep B0)
    have HF : Hid _ := hfa
    clear hn hsm hr hwf hwx
    (with_reducible refine hcL.mono ?_)
    rintro e w1 ⟨cnt, D, rfl, hcnt, hM, hown, b1⟩
    have hhas : Maps.has D (.int .i64 x) = false := by rw [(hM.2 x).1, HF.out]; rfl
    clear hM hfa
    have zr := zR.keep b1
    obtain ⟨t0, t1, t2, t3, t4, t5⟩ := zr.six
    have fz0 := zr.frozen 0
    have fz1 := zr.frozen 1
    have fz2 := zr.frozen 2
    have fz3 := zr.frozen 3
    have fz4 := zr.frozen 4
    have fz5 := zr.frozen 5
    have HG : Hid _ := And.intro zr (B0.trans (b1.mono B0.size))
    clear zr zR zT B0 b1 hcL
    go_wp2_with (first
      | (at_lookup; refine wpList_lookup_own_ok_int _ rfl _ _ 112 rfl 3 3 .i64 Tryz.keyInt Tryz.underlying112 Tryz.underlying3 (Tryz.zeroInt _) (W0.heap.size + 1) cnt D rfl hown _ _ rfl hkey ?_; intro c hat hwc; rw [hhas])
      | go_in)
    have zf := ((((((show Blk w1 (w.heap.size + 1) 68 _ from HG.out.1).set 0 (.int .i64 0)).set 1 (.int .i64 0)).set 2 (.int .i64 0)).set 3 (.slice none 0 0)).set 4 (.slice none 0 0)).set 5 (.slice none 0 0)
    have dd0 := zf.cell 0
    have dd1 := zf.cell 1
    have dd2 := zf.cell 2
    have dd3 := zf.cell 3
    have dd4 := zf.cell 4
    have dd5 := zf.cell 5
    simp at dd0 dd1 dd2 dd3 dd4 dd5
    refine bodyPost_ret (v := .tuple #[.agg #[.int .i64 0, .int .i64 0, .int .i64 0, .slice none 0 0, .slice none 0 0, .slice none 0 0], .bool false]) (by simp [results, Tryz.f159, go_sem, dd0, dd1, dd2, dd3, dd4, dd5]) rfl ?_
    exact hp.out _ _ rfl (at_stored HG.out.2 (inoG_zero w1 (w.heap.size + 1 + 1) w1.heap.size) HG.out.1 (Nat.lt_succ_self _) _ _ _ _ _ _).2
  | some p =>
    have hpl := firstAt_in hfa
    obtain ⟨r, hrp⟩ : ∃ r, rs[p]? = some r := ⟨_, List.getElem?_eq_getElem hpl⟩
    have hp : Hid (∀ (e : Ending) (w' : World) (b1 : Option Addr) (d1 : Nat) (b2 : Option Addr) (d2 : Nat) (b3 : Option Addr) (d3 : Nat), e = .returned (.tuple #[.agg #[.int .i64 r.D.ino, .int .i64 r.D.kind, .int .i64 r.D.links, .slice b1 r.D.data.length d1, .slice b2 r.D.ents.length d2, .slice b3 r.D.attrs.length d3], .bool true]) → InoG w' w.heap.size w'.heap.size r.D (.slice b1 r.D.data.length d1) (.slice b2 r.D.ents.length d2) (.slice b3 r.D.attrs.length d3) → Below w.heap.size w w' → AtPost w rs x e w') := by
      intro e w' b1 d1 b2 d2 b3 d3 he hg hb
      have hD : atD rs x = r.D := by unfold atD; rw [hfa]; simp [List.getD_eq_getElem?_getD, hrp]
      have hB : atB rs x = true := by unfold atB; rw [hfa]; rfl
      unfold AtPost
      rw [hD, hB]
      exact ⟨b1, d1, b2, d2, b3, d3, he, hg, hb⟩
    have hpn : p < n := by omega
    have hpi : (p : Int) < (n : Int) := by omega
    have hpp : (0 : Int) ≤ (p : Int) := by omega
    have hpq : ¬ (p : Int) < 0 := by omega
    generalize AtPost w rs x = P at hp ⊢
    go_enter Tryz.func159, Tryz.ntmps159
    go_wp2_with fail
    obtain ⟨W0, hW0⟩ : ∃ W, ((w.alloc (.cells #[.slice a n cap, .int .i64 nx] 28)).alloc (.cells #[.int .i64 0, .int .i64 0, .int .i64 0, .slice none 0 0, .slice none 0 0, .slice none 0 0] 68)) = W := ⟨_, rfl⟩
    rw [hW0] at B0 zT zR hsz ⊢
    have HSZ : Hid _ := hsz
    clear hW0 hsz
    have hr0 := hr.keep B0
    have hcL := byNumber_any a n cap nx rs W0 hn hs hwf hr0
    have hsr := hsm r (List.mem_of_getElem? hrp)
    have HF : Hid _ := hfa
    have HQ : Hid _ := hrp
    have HP : Hid _ := hpl
    clear hsm hr hfa hrp hpl hn hwf hwx
    (with_reducible refine hcL.mono ?_)
    rintro e w1 ⟨cnt, D, rfl, hcnt, hM, hown, b1⟩
    have hhas : Maps.has D (.int .i64 x) = true := by rw [(hM.2 x).1, HF.out]; rfl
    have hat0 := (hM.2 x).2 p HF.out
    clear hM
    have zt := (zT.keep b1).cell 0
    simp at zt
    obtain ⟨b, off, rfl, hlt, hc⟩ := (hr0.keep b1).lt (by intro h; have := hn'.out; rw [h] at this; simp at this; omega)
    obtain ⟨⟨x0, x1, x2, x3, x4, x5⟩, xr⟩ := hc p r HQ.out
    have hcC := copyInode_any r.D r.a1 r.a2 r.a3 r.c1 r.c2 r.c3 w1 hsr xr
    have HG1 : Hid _ := And.intro (zR.keep b1) (And.intro (B0.trans (b1.mono B0.size)) b1.size)
    clear zR zT B0 b1 hcL hc hr0
    go_wp2_with (first
      | (at_lookup; refine wpList_lookup_own_ok_int _ rfl _ _ 112 rfl 3 3 .i64 Tryz.keyInt Tryz.underlying112 Tryz.underlying3 (Tryz.zeroInt _) (W0.heap.size + 1) cnt D rfl hown _ _ rfl hkey ?_; intro c hat hwc; rw [hhas]; rw [hat0] at hat; simp at hat; subst hat)
      | fail)
    (with_reducible refine hcC.mono ?_)
    rintro e w2 ⟨b1, d1, b2, d2, b3, d3, rfl, g2, bb2⟩
    have zr := Blk.keep HG1.out.1 bb2
    obtain ⟨t0, t1, t2, t3, t4, t5⟩ := zr.six
    have fz0 := zr.frozen 0
    have fz1 := zr.frozen 1
    have fz2 := zr.frozen 2
    have fz3 := zr.frozen 3
    have fz4 := zr.frozen 4
    have fz5 := zr.frozen 5
    have HG : Hid _ := And.intro zr (And.intro (HG1.out.2.1.trans (bb2.mono HG1.out.2.1.size)) g2)
    clear zr g2 bb2 hcC x0 x1 x2 x3 x4 x5 zt
    go_wp2
    have zf := ((((((show Blk w2 (w.heap.size + 1) 68 _ from HG.out.1).set 0 (.int .i64 r.D.ino)).set 1 (.int .i64 r.D.kind)).set 2 (.int .i64 r.D.links)).set 3 (.slice b1 r.D.data.length d1)).set 4 (.slice b2 r.D.ents.length d2)).set 5 (.slice b3 r.D.attrs.length d3)
    have dd0 := zf.cell 0
    have dd1 := zf.cell 1
    have dd2 := zf.cell 2
    have dd3 := zf.cell 3
    have dd4 := zf.cell 4
    have dd5 := zf.cell 5
    simp at dd0 dd1 dd2 dd3 dd4 dd5
    refine bodyPost_ret (v := .tuple #[.agg #[.int .i64 r.D.ino, .int .i64 r.D.kind, .int .i64 r.D.links, .slice b1 r.D.data.length d1, .slice b2 r.D.ents.length d2, .slice b3 r.D.attrs.length d3], .bool true]) (by simp [results, Tryz.f159, go_sem, dd0, dd1, dd2, dd3, dd4, dd5]) rfl ?_
    have hst := at_stored HG.out.2.1 HG.out.2.2 HG.out.1 (by have := HG1.out.2.2; have := HSZ.out; omega) (.int .i64 r.D.ino) (.int .i64 r.D.kind) (.int .i64 r.D.links) (.slice b1 r.D.data.length d1) (.slice b2 r.D.ents.length d2) (.slice b3 r.D.attrs.length d3)
    exact hp.out _ _ _ _ _ _ _ _ rfl hst.1 hst.2
end

section
open Go.RowKit
theorem inos_D (rs : List InoR) : inos rs = (rs.map InoR.D).map fun D => D.ino := by simp [inos]
def costD (D : InoD) : Nat := 3 + D.data.length + 2 * D.ents.length + 2 * D.attrs.length
theorem cost_sum (rs : List InoR) : ((rs.map InoR.D).map costD).sum ≤ 3 * rs.length + 2 * cntI rs := by
  unfold cntI
  induction rs with
  | nil => simp
  | cons r rs ih =>
    simp only [List.map_cons, List.sum_cons, List.length_cons]
    unfold costD at ih ⊢
    omega
end

section
open Go.RowKit
theorem DQT.outs {B : Nat} {W W' : World} {v : Value} {ds : List InoR} {js : List InoJ} {Lo Hi : Nat} (h : DQT B W v ds js) (k : Out Lo Hi W W') (hd : Hi ≤ B) : DQT B W' v ds js := by
  refine ⟨h.ds, ?_, ⟨fun i j e => InoG.kept (h.jq.G i j e) (fun b h1 h2 => k.block b (by have := h.jq.lo i j e; omega) (by have := h.jq.lo i j e; omega)), fun i j e => by have := h.jq.lo i j e; have := k.size; omega, h.jq.ord⟩, h.ap⟩
  refine ⟨h.row.1, h.row.2.imp id (fun ⟨g, c, cur, h1, h2, h3, rest⟩ => ⟨g, c, cur, h1, h2, ?_, rest⟩)⟩
  rw [k.block g (Array.getElem?_eq_some_iff.1 h3).1 (by omega)]
  exact h3
theorem DQT.cases {B : Nat} {W : World} {a : Option Addr} {n c : Nat} {ds : List InoR} {js : List InoJ} (h : DQT B W (.slice a n c) ds js) (hn : js.length = n) : (a = none ∧ js = [] ∧ n = 0 ∧ c = 0) ∨ ∃ g, a = some ⟨g, 0, none⟩ ∧ B ≤ g ∧ OwnI W g n c (js.map InoJ.r) := by
  have hr := h.row
  rw [hn] at hr
  rcases hr.2 with ⟨h1, h2⟩ | ⟨g, c', cur, h1, h2, rest⟩
  · simp at h1
    obtain ⟨rfl, h3, rfl⟩ := h1
    exact .inl ⟨rfl, List.length_eq_zero_iff.1 (by omega), h3, rfl⟩
  · simp at h1
    obtain ⟨rfl, rfl⟩ := h1
    exact .inr ⟨g, rfl, h2, ⟨hr.1, .inr ⟨g, _, cur, rfl, Nat.zero_le _, rest⟩⟩⟩
theorem InoJ.G.rd {w : World} {j : InoJ} (h : j.G w) : j.r.rd w := by
  obtain ⟨a1, c1, a2, c2, a3, c3, e1, e2, e3, hr⟩ := InoG.form h
  simp [InoJ.v1] at e1
  simp [InoJ.v2] at e2
  simp [InoJ.v3] at e3
  unfold InoR.rd
  rw [e1.1, e2.1, e3.1]
  exact hr
theorem DQT.rd {B : Nat} {W : World} {a : Option Addr} {n c : Nat} {ds : List InoR} {js : List InoJ} (h : DQT B W (.slice a n c) ds js) (hn : js.length = n) : RdI W a (js.map InoJ.r) := by
  rcases h.cases hn with ⟨_, rfl, _, _⟩ | ⟨g, rfl, _, ho⟩
  · exact .inl rfl
  · refine OwnI.rds ho (fun r hr => ?_)
    obtain ⟨j, hj, rfl⟩ := List.mem_map.1 hr
    obtain ⟨i, hi⟩ := List.getElem?_of_mem hj
    exact (h.jq.G i j hi).rd
theorem DQT.small {B : Nat} {W : World} {v : Value} {ds : List InoR} {js : List InoJ} (h : DQT B W v ds js) (hs : ∀ r ∈ ds, InoSmall r.D) : ∀ r ∈ js.map InoJ.r, InoSmall r.D := by
  intro r hr
  have h1 : r.D ∈ (js.map InoJ.r).map InoR.D := List.mem_map_of_mem hr
  rw [h.ds] at h1
  obtain ⟨q, hq, hqr⟩ := List.mem_map.1 h1
  rw [← hqr]
  exact hs q hq
/-- A marked table, whose row may be nil. -/
def TV (W : World) (B T : Nat) (a : Option Addr) (n c : Nat) (js : List InoJ) : Prop := (a = none ∧ js = [] ∧ n = 0 ∧ c = 0) ∨ ∃ g w0, a = some ⟨g, 0, none⟩ ∧ ApJ g B T js ∧ TabL w0 W g n c B T 1 js n
theorem TV.keep {W W' : World} {B T : Nat} {a : Option Addr} {n c : Nat} {js : List InoJ} (h : TV W B T a n c js) (hT : T ≤ W.heap.size) (hb : Below W.heap.size W W') : TV W' B T a n c js :=
  h.imp id (fun ⟨g, w0, h1, h2, h3⟩ => ⟨g, w0, h1, h2, h3.keep h2 hT hb⟩)
/-- That the parts of a table lie apart, below T. -/
def ApV (T : Nat) (v : Value) (js : List InoJ) : Prop := (∀ (i : Nat) (j : InoJ), js[i]? = some j → j.hi ≤ T) ∧ ∀ g, v.ownBlock = some g → g < T
theorem DQT.apV {B : Nat} {W : World} {v : Value} {ds : List InoR} {js : List InoJ} (h : DQT B W v ds js) : ApV W.heap.size v js := ⟨fun i j e => (h.jq.lo i j e).2.2, fun g hg => (World.ownsRow.lt h.row g hg).2⟩
theorem DQT.outsLow {B T : Nat} {W W' : World} {v : Value} {ds : List InoR} {js : List InoJ} {Lo Hi : Nat} (h : DQT B W v ds js) (ap : ApV T v js) (k : Out Lo Hi W W') (hd : T ≤ Lo) : DQT B W' v ds js := by
  refine ⟨h.ds, ?_, ⟨fun i j e => InoG.kept (h.jq.G i j e) (fun b h1 h2 => k.block b (by have := h.jq.lo i j e; omega) (by have := ap.1 i j e; omega)), fun i j e => by have := h.jq.lo i j e; have := k.size; omega, h.jq.ord⟩, h.ap⟩
  refine ⟨h.row.1, h.row.2.imp id (fun ⟨g, c, cur, h1, h2, h3, rest⟩ => ⟨g, c, cur, h1, h2, ?_, rest⟩)⟩
  have := ap.2 g (by rw [h1]; rfl)
  rw [k.block g (Array.getElem?_eq_some_iff.1 h3).1 (by omega)]
  exact h3
set_option maxHeartbeats 800000 in
theorem markTab_nil (nx : Int) (W : World) : Calls Tryz.prog 20 #[.agg #[.slice none 0 0, .int .i64 nx], .int .i64 1] W fun e w' => e = .returned (.int .i64 1) ∧ Below W.heap.size W w' := by
  have hc : ∀ V : World, Calls Tryz.prog 63 #[.slice none 0 0, .int .i64 1] V fun e w' => e = .returned (.int .i64 1) ∧ Below V.heap.size V w' := by
    intro V
    go_enter Tryz.func63, Tryz.ntmps63
    go_wp2
    refine wp_loop_rounds 1 ?_; rw [rounds_succ]
    go_wp2
    go_ret
    exact ⟨rfl, Below.refl _ _⟩
  have b0 : Below W.heap.size W (W.alloc (.cells #[.slice none 0 0, .int .i64 nx] 28)) := (Below.refl _ W).alloc (Nat.le_refl _) _
  have HB : Hid _ := b0
  have hcc := hc (W.alloc (.cells #[.slice none 0 0, .int .i64 nx] 28))
  clear hc b0
  go_enter Tryz.func20, Tryz.ntmps20
  go_wp2_with fail
  refine hcc.mono ?_
  rintro e w1 ⟨rfl, b1⟩
  go_wp2
  go_ret
  exact ⟨rfl, HB.out.trans (b1.mono HB.out.size)⟩
set_option maxHeartbeats 800000 in
theorem heldTab_nil (nx : Int) (W : World) : Calls Tryz.prog 21 #[.agg #[.slice none 0 0, .int .i64 nx], .int .i64 1] W fun e w' => e = .returned (.int .i64 1) ∧ Below W.heap.size W w' := by
  have hc : ∀ V : World, Calls Tryz.prog 64 #[.slice none 0 0, .int .i64 1] V fun e w' => e = .returned (.int .i64 1) ∧ Below V.heap.size V w' := by
    intro V
    go_enter Tryz.func64, Tryz.ntmps64
    go_wp2
    refine wp_loop_rounds 1 ?_; rw [rounds_succ]
    go_wp2
    go_ret
    exact ⟨rfl, Below.refl _ _⟩
  have b0 : Below W.heap.size W (W.alloc (.cells #[.slice none 0 0, .int .i64 nx] 28)) := (Below.refl _ W).alloc (Nat.le_refl _) _
  have HB : Hid _ := b0
  have hcc := hc (W.alloc (.cells #[.slice none 0 0, .int .i64 nx] 28))
  clear hc b0
  go_enter Tryz.func21, Tryz.ntmps21
  go_wp2_with fail
  refine hcc.mono ?_
  rintro e w1 ⟨rfl, b1⟩
  go_wp2
  go_ret
  exact ⟨rfl, HB.out.trans (b1.mono HB.out.size)⟩
theorem heldV {B T : Nat} {W : World} {a : Option Addr} {n c : Nat} {js : List InoJ} (nx : Int) (hs : n ≤ 2000000) (hq : qAt 1 js n ≤ 9999990) (hn : js.length = n) (hT : T ≤ W.heap.size) (h : TV W B T a n c js) :
    Calls Tryz.prog 21 #[.agg #[.slice a n c, .int .i64 nx], .int .i64 1] W fun e w' => e = .returned (.int .i64 ((qAt 1 js n : Nat) : Int)) ∧ Below W.heap.size W w' := by
  rcases h with ⟨rfl, rfl, rfl, rfl⟩ | ⟨g, w0, rfl, ap, hL⟩
  · exact heldTab_nil nx W
  · exact heldTab_any w0 nx g n c B T 1 js W hn (Nat.le_refl _) hs hq ap hT hL
theorem DQT.cong {B : Nat} {W : World} {v : Value} {ds ds' : List InoR} {js : List InoJ} (h : DQT B W v ds js) (he : ds.map InoR.D = ds'.map InoR.D) : DQT B W v ds' js := ⟨by rw [h.ds, he], h.row, h.jq, h.ap⟩
end

section
open Go.RowKit
/-- Where a number that is not there belongs. -/
def placeOf (rs : List InoR) (x : Int) : Nat := rs.findIdx fun r => decide (x < r.D.ino)
theorem placeOf_le (rs : List InoR) (x : Int) : placeOf rs x ≤ rs.length := List.findIdx_le_length
theorem placeOf_is {rs : List InoR} {x : Int} {k : Nat} {r : InoR} (hk : rs[k]? = some r) (hx : x < r.D.ino) (ha : ∀ (j : Nat) (q : InoR), j < k → rs[j]? = some q → ¬ x < q.D.ino) : placeOf rs x = k := by
  obtain ⟨hl, he⟩ := List.getElem?_eq_some_iff.1 hk
  refine (List.findIdx_eq hl).2 ⟨by simp [he, hx], fun j hj => ?_⟩
  have := ha j rs[j] hj (List.getElem?_eq_getElem _)
  simpa using this
theorem placeOf_end {rs : List InoR} {x : Int} (ha : ∀ (j : Nat) (q : InoR), rs[j]? = some q → ¬ x < q.D.ino) : placeOf rs x = rs.length := by
  refine List.findIdx_eq_length_of_false fun r hr => ?_
  obtain ⟨j, hj⟩ := List.getElem?_of_mem hr
  simpa using ha j r hj
/-- The table with r set. -/
def putAt (rs : List InoR) (r : InoR) (k : Nat) : List InoR := rs.take k ++ r :: rs.drop k
def setR (rs : List InoR) (r : InoR) : List InoR := match firstAt (inos rs) r.D.ino with
  | some p => rs.set p r
  | none => putAt rs r (placeOf rs r.D.ino)
theorem setR_some {rs : List InoR} {r : InoR} {p : Nat} (h : firstAt (inos rs) r.D.ino = some p) : setR rs r = rs.set p r := by unfold setR; rw [h]
theorem setR_none {rs : List InoR} {r : InoR} (h : firstAt (inos rs) r.D.ino = none) : setR rs r = putAt rs r (placeOf rs r.D.ino) := by unfold setR; rw [h]
theorem putAt_len (rs : List InoR) (r : InoR) (k : Nat) (h : k ≤ rs.length) : (putAt rs r k).length = rs.length + 1 := by
  simp [putAt]
  omega
theorem setR_mem {rs : List InoR} {r q : InoR} (h : q ∈ setR rs r) : q ∈ rs ∨ q = r := by
  unfold setR at h
  split at h
  · exact List.mem_or_eq_of_mem_set h
  · rcases List.mem_append.1 h with h | h
    · exact .inl (List.mem_of_mem_take h)
    · rcases List.mem_cons.1 h with h | h
      · exact .inr h
      · exact .inl (List.mem_of_mem_drop h)
theorem inos_eq {rs ts : List InoR} (h : ts.map InoR.D = rs.map InoR.D) : inos ts = inos rs := by rw [inos_D, inos_D, h]
theorem place_D {rs ts : List InoR} (h : ts.map InoR.D = rs.map InoR.D) (x : Int) : placeOf ts x = placeOf rs x := by
  have e : ∀ l : List InoR, placeOf l x = (l.map InoR.D).findIdx fun D => decide (x < D.ino) := fun l => by
    unfold placeOf
    rw [List.findIdx_map]
    rfl
  rw [e, e, h]
theorem setR_D (rs ts : List InoR) (r r' : InoR) (h : ts.map InoR.D = rs.map InoR.D) (hr : r'.D = r.D) : (setR ts r').map InoR.D = (setR rs r).map InoR.D := by
  unfold setR
  rw [inos_eq h, hr]
  split
  · rw [List.map_set, List.map_set, h, hr]
  · rw [place_D h]
    unfold putAt
    simp only [List.map_append, List.map_cons, List.map_take, List.map_drop, h, hr]
/-- Copies of ds, in a row v that may be nil, all at or behind B, the lists of each apart from all others. -/
structure DQA (B : Nat) (W : World) (v : Value) (ds : List InoR) (js : List InoJ) : Prop where
  ds : (js.map InoJ.r).map InoR.D = ds.map InoR.D
  row : W.ownsRow B 68 6 v js.length (iv (js.map InoJ.r))
  G : ∀ (i : Nat) (j : InoJ), js[i]? = some j → j.G W
  lo : ∀ (i : Nat) (j : InoJ), js[i]? = some j → B ≤ j.lo ∧ j.lo ≤ j.hi ∧ j.hi ≤ W.heap.size
  apart : ∀ (i i' : Nat) (j j' : InoJ), js[i]? = some j → js[i']? = some j' → i ≠ i' → j.hi ≤ j'.lo ∨ j'.hi ≤ j.lo
  ap : ∀ g, v.ownBlock = some g → ∀ (i : Nat) (j : InoJ), js[i]? = some j → g < j.lo ∨ j.hi ≤ g
theorem DQT.dqa {B : Nat} {W : World} {v : Value} {ds : List InoR} {js : List InoJ} (h : DQT B W v ds js) : DQA B W v ds js :=
  ⟨h.ds, h.row, h.jq.G, h.jq.lo, fun i i' j j' e e' hne => by
    rcases Nat.lt_or_gt_of_ne hne with hl | hl
    · exact .inl (h.jq.ord i i' j j' hl e e')
    · exact .inr (h.jq.ord i' i j' j hl e' e), h.ap⟩
theorem DQA.len {B : Nat} {W : World} {v : Value} {ds : List InoR} {js : List InoJ} (h : DQA B W v ds js) : js.length = ds.length := by have := congrArg List.length h.ds; simpa using this
theorem DQA.kept {B : Nat} {W W' : World} {v : Value} {ds : List InoR} {js : List InoJ} (h : DQA B W v ds js) (hs : W.heap.size ≤ W'.heap.size) (hrow : W'.ownsRow B 68 6 v js.length (iv (js.map InoJ.r))) (k : ∀ (i : Nat) (j : InoJ), js[i]? = some j → ∀ b, j.lo ≤ b → b < j.hi → W'.heap[b]? = W.heap[b]?) : DQA B W' v ds js :=
  ⟨h.ds, hrow, fun i j e => InoG.kept (h.G i j e) (k i j e), fun i j e => by have := h.lo i j e; omega, h.apart, h.ap⟩
theorem DQA.keep {B : Nat} {W W' : World} {v : Value} {ds : List InoR} {js : List InoJ} (h : DQA B W v ds js) (hb : Below W.heap.size W W') : DQA B W' v ds js :=
  h.kept hb.size (row_keep6 h.row hb) (fun i j e b _ h2 => hb.block b (by have := h.lo i j e; omega))
theorem DQA.setX {B : Nat} {W : World} {v : Value} {rs : List InoR} {js : List InoJ} (h : DQA B W v rs js) {X : Nat} (hX : X < B) (i : Nat) (u : Value) : DQA B (W.setCell ⟨X, i, none⟩ u) v rs js :=
  h.kept (by simp [World.setCell]) (row_kept h.row (gr_setC W X i u) (fun m hm e => by have := (World.ownsRow.lt h.row m hm).1; simp at e; omega)) (fun k j e b h1 h2 => (gr_setC W X i u).block b (by have := h.lo k j e; omega) (by have := h.lo k j e; simp; omega))
theorem DQA.lower {B B' : Nat} {W : World} {v : Value} {rs : List InoR} {js : List InoJ} (h : DQA B W v rs js) (hB : B' ≤ B) : DQA B' W v rs js :=
  ⟨h.ds, row_lower h.row hB, h.G, fun i j e => by have := h.lo i j e; omega, h.apart, h.ap⟩
theorem DQA.outs {B : Nat} {W W' : World} {v : Value} {ds : List InoR} {js : List InoJ} {Lo Hi : Nat} (h : DQA B W v ds js) (k : Out Lo Hi W W') (hd : Hi ≤ B) : DQA B W' v ds js := by
  refine h.kept k.size ?_ (fun i j e b h1 h2 => k.block b (by have := h.lo i j e; omega) (by have := h.lo i j e; omega))
  refine ⟨h.row.1, h.row.2.imp id (fun ⟨g, c, cur, h1, h2, h3, rest⟩ => ⟨g, c, cur, h1, h2, ?_, rest⟩)⟩
  rw [k.block g (Array.getElem?_eq_some_iff.1 h3).1 (by omega)]
  exact h3
theorem DQA.cases {B : Nat} {W : World} {a : Option Addr} {n c : Nat} {ds : List InoR} {js : List InoJ} (h : DQA B W (.slice a n c) ds js) (hn : js.length = n) : (a = none ∧ js = [] ∧ n = 0 ∧ c = 0) ∨ ∃ g, a = some ⟨g, 0, none⟩ ∧ B ≤ g ∧ OwnI W g n c (js.map InoJ.r) := by
  have hr := h.row
  rw [hn] at hr
  rcases hr.2 with ⟨h1, h2⟩ | ⟨g, c', cur, h1, h2, rest⟩
  · simp at h1
    obtain ⟨rfl, h3, rfl⟩ := h1
    exact .inl ⟨rfl, List.length_eq_zero_iff.1 (by omega), h3, rfl⟩
  · simp at h1
    obtain ⟨rfl, rfl⟩ := h1
    exact .inr ⟨g, rfl, h2, ⟨hr.1, .inr ⟨g, _, cur, rfl, Nat.zero_le _, rest⟩⟩⟩
theorem DQA.rd {B : Nat} {W : World} {a : Option Addr} {n c : Nat} {ds : List InoR} {js : List InoJ} (h : DQA B W (.slice a n c) ds js) (hn : js.length = n) : RdI W a (js.map InoJ.r) := by
  rcases h.cases hn with ⟨_, rfl, _, _⟩ | ⟨g, rfl, _, ho⟩
  · exact .inl rfl
  · refine OwnI.rds ho (fun r hr => ?_)
    obtain ⟨j, hj, rfl⟩ := List.mem_map.1 hr
    obtain ⟨i, hi⟩ := List.getElem?_of_mem hj
    exact (h.G i j hi).rd
theorem DQA.small {B : Nat} {W : World} {v : Value} {ds : List InoR} {js : List InoJ} (h : DQA B W v ds js) (hs : ∀ r ∈ ds, InoSmall r.D) : ∀ r ∈ js.map InoJ.r, InoSmall r.D := by
  intro r hr
  have h1 : r.D ∈ (js.map InoJ.r).map InoR.D := List.mem_map_of_mem hr
  rw [h.ds] at h1
  obtain ⟨q, hq, hqr⟩ := List.mem_map.1 h1
  rw [← hqr]
  exact hs q hq
theorem DQA.cong {B : Nat} {W : World} {v : Value} {ds ds' : List InoR} {js : List InoJ} (h : DQA B W v ds js) (he : ds.map InoR.D = ds'.map InoR.D) : DQA B W v ds' js := ⟨by rw [h.ds, he], h.row, h.G, h.lo, h.apart, h.ap⟩
theorem eqVA {B B' : Nat} {W : World} {a a' : Option Addr} {n c c' : Nat} {ds : List InoR} {js js' : List InoJ} (nx : Int) (hs : n ≤ 4000000) (hsm : ∀ r ∈ ds, InoSmall r.D) (h : DQA B W (.slice a n c) ds js) (h' : DQA B' W (.slice a' n c') ds js') (hn : js.length = n) (hn' : js'.length = n) :
    Calls Tryz.prog 19 #[.agg #[.slice a n c, .int .i64 nx], .agg #[.slice a' n c', .int .i64 nx]] W fun e w' => e = .returned (.bool true) ∧ Below W.heap.size W w' :=
  eqTab_same _ _ n c c' nx _ _ W (by rw [List.length_map]; exact hn) (by omega) (by rw [h'.ds, h.ds]) (h.small hsm) (h.rd hn) (h'.rd hn')
theorem DQA.apV {B : Nat} {W : World} {v : Value} {ds : List InoR} {js : List InoJ} (h : DQA B W v ds js) : ApV W.heap.size v js := ⟨fun i j e => (h.lo i j e).2.2, fun g hg => (World.ownsRow.lt h.row g hg).2⟩
theorem DQA.outsLow {B T : Nat} {W W' : World} {v : Value} {ds : List InoR} {js : List InoJ} {Lo Hi : Nat} (h : DQA B W v ds js) (ap : ApV T v js) (k : Out Lo Hi W W') (hd : T ≤ Lo) : DQA B W' v ds js := by
  refine h.kept k.size ?_ (fun i j e b h1 h2 => k.block b (by have := h.lo i j e; omega) (by have := ap.1 i j e; omega))
  refine ⟨h.row.1, h.row.2.imp id (fun ⟨g, c, cur, h1, h2, h3, rest⟩ => ⟨g, c, cur, h1, h2, ?_, rest⟩)⟩
  have := ap.2 g (by rw [h1]; rfl)
  rw [k.block g (Array.getElem?_eq_some_iff.1 h3).1 (by omega)]
  exact h3
theorem markVA {B T : Nat} {W : World} {a : Option Addr} {n c : Nat} {ds : List InoR} {js : List InoJ} (nx : Int) (hs : n ≤ 2000000) (hq : qAt 1 js n ≤ 9999990) (h : DQA B W (.slice a n c) ds js) (hn : js.length = n) (hT : T ≤ W.heap.size) (hap : ApV T (.slice a n c) js) :
    Calls Tryz.prog 20 #[.agg #[.slice a n c, .int .i64 nx], .int .i64 1] W fun e w' => e = .returned (.int .i64 ((qAt 1 js n : Nat) : Int)) ∧ TV w' B T a n c js ∧ Out B T W w' := by
  rcases h.cases hn with ⟨rfl, rfl, rfl, rfl⟩ | ⟨g, rfl, hg, ho⟩
  · exact (markTab_nil nx W).mono fun e w' ⟨h1, h2⟩ => ⟨h1, .inl ⟨rfl, rfl, rfl, rfl⟩, Below.out h2 _ _⟩
  · have ap : ApJ g B T js := ⟨h.apart, fun i j e => h.ap g rfl i j e, fun i j e => ⟨(h.lo i j e).1, hap.1 i j e⟩, ⟨hg, hap.2 g rfl⟩⟩
    exact (markTab_any nx g n c B T 1 js W hn (Nat.le_refl _) hs hq ap hT ho h.G).mono fun e w' ⟨h1, h2⟩ => ⟨h1, .inr ⟨g, W, rfl, ap, h2⟩, h2.out⟩
/-- What both SetInode functions answer. -/
def SetPost (w : World) (nx : Int) (ds : List InoR) (e : Ending) (w' : World) : Prop :=
  ∃ (a : Option Addr) (c : Nat) (js : List InoJ), e = .returned (.agg #[.slice a js.length c, .int .i64 nx]) ∧ DQA w.heap.size w' (.slice a js.length c) ds js ∧ Below w.heap.size w w'
end
end Go.Proofs.YtmfimoccemgoiaaGreatDoor
