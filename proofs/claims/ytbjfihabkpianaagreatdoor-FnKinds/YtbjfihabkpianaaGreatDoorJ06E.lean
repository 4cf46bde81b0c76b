/-
  Joined: DropI, AtS2, AtI, TabNew, AtW, DropW.
-/
import Derived.Test.YtbjfihabkpianaaGreatDoorCopyIE
namespace Go.Proofs.YtbjfihabkpianaaGreatDoor
section
open Go.RowKit Go.Maps
theorem below_grown {W W' : World} (h : Below W.heap.size W W') : W.grownBy W' none := ⟨h.os, h.tape, h.output, h.size, fun k hk _ => h.block k hk⟩
theorem has_del {D : DataW Unit} {rs : List InoR} (hM : MapIs D (inos rs)) {k : Nat} {r : InoR} (h : rs[k]? = some r) (x : Int) : Maps.has (D.del (.int .i64 x)) (.int .i64 r.D.ino) = (r.D.ino != x) := by
  have hs : (firstAt (inos rs) r.D.ino).isSome = true := by
    cases hf : firstAt (inos rs) r.D.ino with
    | some p => rfl
    | none =>
      unfold firstAt at hf
      rw [List.findIdx?_eq_none_iff] at hf
      have := hf r.D.ino (List.mem_of_getElem? (inos_is h))
      simp at this
  by_cases he : r.D.ino = x
  · rw [he]
    have := has_del_same (D := D) (k := .int .i64 x)
    rw [this]
    simp
  · rw [has_del_other (by simpa using he), (hM.2 r.D.ino).1, hs]
    simp [he]
set_option maxRecDepth 100000 in
set_option maxHeartbeats 4000000 in
theorem dropI (a : Option Addr) (n cap : Nat) (nx x : Int) (rs : List InoR) (w : World) (hn : rs.length = n) (hs : n ≤ 1048576) (hwx : (Lit.int .i64 x).wf = true) (hwf : ∀ r ∈ rs, (Lit.int .i64 r.D.ino).wf = true) (hsm : ∀ r ∈ rs, InoSmall r.D) (hr : RdI w a rs) :
    Calls Tryz.prog 210 #[.agg #[.slice a n cap, .int .i64 nx], .int .i64 x] w fun e w' => DropPost w nx (dropR rs x) e w' := by
  obtain ⟨ii, hii, zi0, zi1, zi2⟩ := info_parts Tryz.infoInode
  have hn' : Hid (rs.length = n) := hn
  have HR : Hid _ := hr
  have HS : Hid _ := hsm
  have HW : Hid _ := hwf
  have hkx : keyOf Tryz.prog 3 (.int .i64 x) = some (.int .i64 x) := keyOf_int_mk Tryz.underlying3 hwx
  have B0 : Below w.heap.size w ((w.alloc (.cells #[.slice a n cap, .int .i64 nx] 47)).alloc (.cells #[.slice none 0 0, .int .i64 0] 47)) := ((Below.refl _ w).alloc (Nat.le_refl _) _).alloc (by simp) _
  have z0 := (Blk.new w 47 #[.slice a n cap, .int .i64 nx]).alloc (.cells #[.slice none 0 0, .int .i64 0] 47)
  have z1 := (Blk.new (w.alloc (.cells #[.slice a n cap, .int .i64 nx] 47)) 47 #[.slice none 0 0, .int .i64 0])
  simp only [World.size_alloc] at z1
  have hsz : ((w.alloc (.cells #[.slice a n cap, .int .i64 nx] 47)).alloc (.cells #[.slice none 0 0, .int .i64 0] 47)).heap.size = w.heap.size + 1 + 1 := by simp
  go_enter Tryz.func210, Tryz.ntmps210
  go_wp2_with fail
  obtain ⟨W0, hW0⟩ : ∃ W, (w.alloc (.cells #[.slice a n cap, .int .i64 nx] 47)).alloc (.cells #[.slice none 0 0, .int .i64 0] 47) = W := ⟨_, rfl⟩
  rw [hW0] at B0 z0 z1 hsz ⊢
  have HSZ : Hid _ := hsz
  clear hW0 hsz
  have hcB := byNumber_any a n cap nx rs W0 hn (by omega) hwf (hr.keep B0)
  clear hr hsm hn hwf
  (with_reducible refine hcB.mono ?_)
  rintro e w1 ⟨cnt, D, rfl, hcnt, hM, hown, b1⟩
  obtain ⟨M, hMM⟩ : ∃ M, W0.heap.size + 1 = M := ⟨_, rfl⟩
  rw [hMM] at hown ⊢
  have hmlt := hown.lt
  have B1 := B0.trans (b1.mono B0.size)
  have y0 := z0.keep b1
  have y1 := z1.keep b1
  have HM : Hid _ := hM
  have hwM : w.heap.size + 1 < M := by have := HSZ.out; omega
  clear z0 z1 B0 b1 hcB hM hMM
  have t1 := y0.cell 1
  simp at t1
  go_upto_region 3 with (at_delete; refine wpList_delete_own _ rfl _ _ 157 3 rfl 3 Tryz.keyInt Tryz.underlying157 _ M cnt D rfl hown _ _ rfl hkx ?_; intro w2 hown2 hturn2)
  have g2 := hturn2.grown
  have B2 : Below w.heap.size w w2 := B1.grown g2 B1.size (fun m hm => by simp at hm; omega)
  have u0 := y0.kept g2 (by omega)
  have u1 := y1.kept g2 (by omega)
  have hs2 := g2.size
  clear hown hturn2 g2 y0 y1 B1 t1
  have dx0 : DX w (w2.alloc (.cells #[.slice none 0 0, .int .i64 nx] 47)) w2.heap.size nx (.slice a n cap) (.slice none 0 0) [] [] :=
    ⟨B2.alloc B2.size _, u0.alloc _, u1.alloc _, Blk.new w2 _ _, u1.lt, DQT.nil _ _⟩
  have hown3 := hown2.alloc (.cells #[.slice none 0 0, .int .i64 nx] 47)
  have hMX : M < w2.heap.size := by omega
  have t0 := u0.cell 0
  have t1 := u0.cell 1
  have t2 := dx0.tb.cell 0
  simp at t0 t1 t2
  go_wp2
  clear t0 t1 t2 u0 u1 B2 hown2
  obtain ⟨W2, hW2⟩ : ∃ W, w2.alloc (.cells #[.slice none 0 0, .int .i64 nx] 47) = W := ⟨_, rfl⟩
  obtain ⟨X, hX⟩ : ∃ X, w2.heap.size = X := ⟨_, rfl⟩
  rw [hW2] at dx0 hown3 ⊢
  rw [hX] at dx0 hMX ⊢
  clear hW2 hs2 hX
  go_loopw [21] (fun i wr => ∃ (k : Nat) (v : Value) (js : List InoJ), k ≤ n ∧ i = .int .i64 k ∧ DX w wr X nx (.slice a n cap) v (dropR (rs.take k) x) js ∧ wr.ownsMap Tryz.prog 3 (plainElem Tryz.prog 3) M cnt (D.del (.int .i64 x))) (fun i _ => n - (intOf i).toNat)
  case atStart => exact ⟨0, .slice none 0 0, [], Nat.zero_le _, rfl, dx0, hown3⟩
  case round =>
    obtain ⟨k, v, js, hk, rfl, dx, hown⟩ := hrel
    clear dx0 hown3
    by_cases hkn : k < n
    · have hki : (k : Int) < (n : Int) := by omega
      have hkz : (0 : Int) ≤ (k : Int) := by omega
      obtain ⟨r, hrk⟩ : ∃ r, rs[k]? = some r := ⟨_, List.getElem?_eq_getElem (by rw [hn'.out]; exact hkn)⟩
      obtain ⟨b, off, rfl, hlt, hc⟩ := (RdI.keep HR.out dx.below).lt (by intro h; have := hn'.out; rw [h] at this; simp at this; omega)
      obtain ⟨⟨x0, x1, x2, x3, x4, x5⟩, xr⟩ := hc k r hrk
      have hsr := HS.out r (List.mem_of_getElem? hrk)
      have hkey : keyOf Tryz.prog 3 (.int .i64 r.D.ino) = some (.int .i64 r.D.ino) := keyOf_int_mk Tryz.underlying3 (HW.out r (List.mem_of_getElem? hrk))
      have hhas := has_del HM.out hrk x
      have b8 : Below wr.heap.size wr (wr.alloc (.cells #[.int .i64 r.D.ino, .int .i64 r.D.kind, .int .i64 r.D.links, .slice r.a1 r.D.data.length r.c1, .slice r.a2 r.D.ents.length r.c2, .slice r.a3 r.D.attrs.length r.c3] 68)) := (Below.refl _ wr).alloc (Nat.le_refl _) _
      have zE := Blk.new wr 68 #[.int .i64 r.D.ino, .int .i64 r.D.kind, .int .i64 r.D.links, .slice r.a1 r.D.data.length r.c1, .slice r.a2 r.D.ents.length r.c2, .slice r.a3 r.D.attrs.length r.c3]
      have dx8 := dx.keep b8
      have hown8 := hown.alloc (.cells #[.int .i64 r.D.ino, .int .i64 r.D.kind, .int .i64 r.D.links, .slice r.a1 r.D.data.length r.c1, .slice r.a2 r.D.ents.length r.c2, .slice r.a3 r.D.attrs.length r.c3] 68)
      have xr8 := InoRd.keep xr b8
      by_cases he : r.D.ino = x
      · have hb : (r.D.ino != x) = false := by simp [he]
        rw [hb] at hhas
        have hds : Hid _ := dropR_no hrk he
        have HDX : Hid _ := And.intro dx8 hown8
        clear hc hrk xr xr8 hsr dx dx8 hb he
        go_wp2_with (first
          | (at_lookup; refine wpList_lookup_own_ok_int _ rfl _ _ 157 rfl 3 3 .i64 Tryz.keyInt Tryz.underlying157 Tryz.underlying3 (Tryz.zeroInt _) M cnt (D.del (.int .i64 x)) rfl hown8 _ _ rfl hkey ?_; intro c hat hwc; rw [hhas])
          | go_in)
        go_roundw
        case rel => exact ⟨k + 1, v, js, by omega, by go_num, by rw [hds.out]; exact HDX.out.1, HDX.out.2⟩
        case measure => simp [intOf]; omega
      · have hb : (r.D.ino != x) = true := by simp [he]
        rw [hb] at hhas
        have hds : Hid _ := dropR_yes hrk he
        have hlj : js.length ≤ n := by rw [dx.q.len]; exact Nat.le_trans (dropR_len rs x k) hk
        obtain ⟨ds, hds'⟩ : ∃ l, dropR (rs.take k) x = l := ⟨_, rfl⟩
        rw [hds'] at hds dx8
        clear hc hrk xr dx hb hds'
        go_upto_region 9 with (first
          | (at_lookup; refine wpList_lookup_own_ok_int _ rfl _ _ 157 rfl 3 3 .i64 Tryz.keyInt Tryz.underlying157 Tryz.underlying3 (Tryz.zeroInt _) M cnt (D.del (.int .i64 x)) rfl hown8 _ _ rfl hkey ?_; intro c hat hwc; rw [hhas])
          | fail)
        obtain ⟨E, hE⟩ : ∃ E, wr.heap.size = E := ⟨_, rfl⟩
        obtain ⟨W8, hW8⟩ : ∃ W, wr.alloc (.cells #[.int .i64 r.D.ino, .int .i64 r.D.kind, .int .i64 r.D.links, .slice r.a1 r.D.data.length r.c1, .slice r.a2 r.D.ents.length r.c2, .slice r.a3 r.D.attrs.length r.c3] 68) = W := ⟨_, rfl⟩
        rw [hW8] at dx8 hown8 zE xr8 ⊢
        rw [hE] at zE ⊢
        clear hW8 hE b8 x0 x1 x2 x3 x4 x5 hown hlt
        have hcC := copyInode_any r.D r.a1 r.a2 r.a3 r.c1 r.c2 r.c3 W8.drew hsr (InoRd.keep xr8 (Below.refl W8.heap.size W8).drew)
        have o0 := dx8.out.cell 0
        simp at o0
        obtain ⟨e0, e1, e2, e3, e4, e5⟩ := zE.six
        go_region_law (first
          | (go_simp; go_at_call 153; (with_reducible refine hcC.mono ?_); rintro e w10 ⟨b1, d1, b2, d2, b3, d3, rfl, gC, bC⟩; have b11 : Below W8.heap.size W8 w10 := (Below.refl W8.heap.size W8).drew.trans bC; have dx10 := dx8.keep b11; have o1 := dx10.out.cell 0; have o2 := (dx10.out.alloc (.cells #[.int .i64 r.D.ino, .int .i64 r.D.kind, .int .i64 r.D.links, .slice b1 r.D.data.length d1, .slice b2 r.D.ents.length d2, .slice b3 r.D.attrs.length d3] 68)).cell 0; simp at o1 o2; have hrow := World.ownsRow.alloc dx10.q.row (.cells #[.int .i64 r.D.ino, .int .i64 r.D.kind, .int .i64 r.D.links, .slice b1 r.D.data.length d1, .slice b2 r.D.ents.length d2, .slice b3 r.D.attrs.length d3] 68); have hbw : X + 1 ≤ (w10.alloc (.cells #[.int .i64 r.D.ino, .int .i64 r.D.kind, .int .i64 r.D.links, .slice b1 r.D.data.length d1, .slice b2 r.D.ents.length d2, .slice b3 r.D.attrs.length d3] 68)).heap.size := (by simp; have := dx10.out.lt; omega); dsimp only)
          | (refine step_append_lies (w10.alloc (.cells #[.int .i64 r.D.ino, .int .i64 r.D.kind, .int .i64 r.D.links, .slice b1 r.D.data.length d1, .slice b2 r.D.ents.length d2, .slice b3 r.D.attrs.length d3] 68)) rfl (.tmp 34) (.tmp 37) 45 rfl (X + 1) 68 ii _ 6 96 Tryz.underlying45 hii zi0 zi1 zi2 rfl (by omega) v js.length (iv (js.map InoJ.r)) rfl hrow ⟨w10.heap.size, 0, none⟩ 1 1 (InoR.six ⟨r.D, b1, d1, b2, d2, b3, d3⟩) rfl rfl (six_news w10 ⟨r.D, b1, d1, b2, d2, b3, d3⟩ _) (six_one _) (by omega) (by unfold maxLen; omega) (by omega) hbw (w10.heap.size + 1) (by simp) ?_; intro g2 cc2 w12 ho12 hg12 hat12 hlt12; obtain ⟨o12, dx12⟩ := dx8.app b11 r ⟨r.D, b1, d1, b2, d2, b3, d3⟩ rfl gC (.cells #[.int .i64 r.D.ino, .int .i64 r.D.kind, .int .i64 r.D.links, .slice b1 r.D.data.length d1, .slice b2 r.D.ents.length d2, .slice b3 r.D.attrs.length d3] 68) hg12 g2 (js.length + 1) cc2 rfl ho12 hat12; have m12 := (((hown8.kept (below_grown b11) (by simp)).alloc (.cells #[.int .i64 r.D.ino, .int .i64 r.D.kind, .int .i64 r.D.links, .slice b1 r.D.data.length d1, .slice b2 r.D.ents.length d2, .slice b3 r.D.attrs.length d3] 68)).kept hg12 (fun e => (by have := (World.ownsRow.lt dx8.q.row M e.symm).1; omega))).setCell (a := ⟨X, 0, none⟩) (by simp only; omega) (.slice (some ⟨g2, 0, none⟩) (js.length + 1) cc2); have c4 := o12.cell 0; have f4 := o12.frozen 0; simp at c4))
        all_goals clear dx10 hrow hbw
        all_goals go_wp2
        all_goals go_roundw
        all_goals first
          | (case rel => (repeat apply Exists.intro); exact ⟨⟨k + 1, _, _, by omega, by go_num, by rw [hds.out]; exact dx12, m12⟩, rfl⟩)
          | (case rel => exact ⟨k + 1, _, _, by omega, by go_num, by rw [hds.out]; exact dx12, m12⟩)
          | (case measure => simp [intOf]; omega)
    · have hki : ¬ (k : Int) < (n : Int) := by omega
      have hke : rs.take k = rs := List.take_of_length_le (by rw [hn'.out]; omega)
      rw [hke] at dx
      clear hke
      obtain ⟨va, vc, rfl⟩ := six_of_row dx.q.row
      obtain ⟨vn, hvn⟩ : ∃ m, js.length = m := ⟨_, rfl⟩
      have HVN : Hid _ := hvn
      have o0 := dx.out.cell 0
      have o1 := dx.out.cell 1
      have r0 := dx.res.cell 0
      have r1 := dx.res.cell 1
      have f0 := dx.res.frozen 0
      have f1 := dx.res.frozen 1
      simp at o0 o1 r0 r1
      rw [hvn] at o0
      have HG : Hid _ := dx
      clear dx hvn
      go_wp2
      have zf := (HG.out.res.set 0 (.slice va vn vc)).set 1 (.int .i64 nx)
      have dd0 := zf.cell 0
      have dd1 := zf.cell 1
      simp at dd0 dd1
      refine bodyPost_ret (v := .agg #[.slice va vn vc, .int .i64 nx]) (by simp [results, Tryz.f210, go_sem, dd0, dd1]) rfl ?_
      have hhx := HG.out.hX
      refine ⟨va, vc, js, by rw [HVN.out], ((HG.out.q.setX (X := w.heap.size + 1) (by omega) 0 (.slice va vn vc)).setX (X := w.heap.size + 1) (by omega) 1 (.int .i64 nx)).lower (by omega), ?_⟩
      exact (HG.out.below.setCell (p := ⟨w.heap.size + 1, 0, none⟩) (by simp only; omega) _).setCell (p := ⟨w.heap.size + 1, 1, none⟩) (by simp only; omega) _
end

section
open Go.RowKit
/-- The answer stored in the result's box. -/
theorem at_stored {w W : World} {lo : Nat} {D : InoD} {v1 v2 v3 : Value} {os : Array Value} (hb : Below w.heap.size w W) (hg : InoG W lo W.heap.size D v1 v2 v3) (_ : Blk W (w.heap.size + 1) 68 os) (hlo : w.heap.size + 1 < lo) (u0 u1 u2 u3 u4 u5 : Value) :
    InoG ((((((W.setCell ⟨w.heap.size + 1, 0, none⟩ u0).setCell ⟨w.heap.size + 1, 1, none⟩ u1).setCell ⟨w.heap.size + 1, 2, none⟩ u2).setCell ⟨w.heap.size + 1, 3, none⟩ u3).setCell ⟨w.heap.size + 1, 4, none⟩ u4).setCell ⟨w.heap.size + 1, 5, none⟩ u5) w.heap.size ((((((W.setCell ⟨w.heap.size + 1, 0, none⟩ u0).setCell ⟨w.heap.size + 1, 1, none⟩ u1).setCell ⟨w.heap.size + 1, 2, none⟩ u2).setCell ⟨w.heap.size + 1, 3, none⟩ u3).setCell ⟨w.heap.size + 1, 4, none⟩ u4).setCell ⟨w.heap.size + 1, 5, none⟩ u5).heap.size D v1 v2 v3 ∧
    Below w.heap.size w ((((((W.setCell ⟨w.heap.size + 1, 0, none⟩ u0).setCell ⟨w.heap.size + 1, 1, none⟩ u1).setCell ⟨w.heap.size + 1, 2, none⟩ u2).setCell ⟨w.heap.size + 1, 3, none⟩ u3).setCell ⟨w.heap.size + 1, 4, none⟩ u4).setCell ⟨w.heap.size + 1, 5, none⟩ u5) := by
  have g : W.grownBy ((((((W.setCell ⟨w.heap.size + 1, 0, none⟩ u0).setCell ⟨w.heap.size + 1, 1, none⟩ u1).setCell ⟨w.heap.size + 1, 2, none⟩ u2).setCell ⟨w.heap.size + 1, 3, none⟩ u3).setCell ⟨w.heap.size + 1, 4, none⟩ u4).setCell ⟨w.heap.size + 1, 5, none⟩ u5) (some (w.heap.size + 1)) := gr_more (gr_more (gr_more (gr_more (gr_more (gr_setC W _ 0 _) 1 _) 2 _) 3 _) 4 _) 5 _
  exact ⟨(hg.kept fun b h1 h2 => g.block b h2 (by simp; omega)).wider (by omega) g.size, hb.grown g hb.size (fun m hm => by simp at hm; omega)⟩
theorem inoG_zero (w : World) (B T : Nat) : InoG w B T inoZ.D (.slice none 0 0) (.slice none 0 0) (.slice none 0 0) :=
  ⟨⟨rfl, .inl ⟨rfl, rfl⟩⟩, fun z hz => by simp [inoZ] at hz, ⟨rfl, .inl ⟨rfl, rfl⟩⟩, ⟨rfl, .inl ⟨rfl, rfl⟩⟩, fun g hg => by simp [Value.ownBlock] at hg⟩
end

section
open Go.RowKit Go.Maps
set_option maxRecDepth 100000 in
set_option maxHeartbeats 2000000 in
theorem inodeAtI (a : Option Addr) (n cap : Nat) (nx x : Int) (rs : List InoR) (w : World) (hn : rs.length = n) (hs : n ≤ 4000000) (hwx : (Lit.int .i64 x).wf = true) (hwf : ∀ r ∈ rs, (Lit.int .i64 r.D.ino).wf = true) (hsm : ∀ r ∈ rs, InoSmall r.D) (hr : RdI w a rs) :
    Calls Tryz.prog 114 #[.agg #[.slice a n cap, .int .i64 nx], .int .i64 x] w fun e w' => AtPost w rs x e w' := by
  have B0 : Below w.heap.size w ((w.alloc (.cells #[.slice a n cap, .int .i64 nx] 47)).alloc (.cells #[.int .i64 0, .int .i64 0, .int .i64 0, .slice none 0 0, .slice none 0 0, .slice none 0 0] 68)) := ((Below.refl _ w).alloc (Nat.le_refl _) _).alloc (by simp) _
  have zT : Blk ((w.alloc (.cells #[.slice a n cap, .int .i64 nx] 47)).alloc (.cells #[.int .i64 0, .int .i64 0, .int .i64 0, .slice none 0 0, .slice none 0 0, .slice none 0 0] 68)) w.heap.size 47 #[.slice a n cap, .int .i64 nx] := (Blk.new w _ _).alloc _
  have zR := Blk.new (w.alloc (.cells #[.slice a n cap, .int .i64 nx] 47)) 68 #[.int .i64 0, .int .i64 0, .int .i64 0, .slice none 0 0, .slice none 0 0, .slice none 0 0]
  simp only [World.size_alloc] at zR
  have hsz : ((w.alloc (.cells #[.slice a n cap, .int .i64 nx] 47)).alloc (.cells #[.int .i64 0, .int .i64 0, .int .i64 0, .slice none 0 0, .slice none 0 0, .slice none 0 0] 68)).heap.size = w.heap.size + 1 + 1 := by simp
  have hn' : Hid (rs.length = n) := hn
  have hkey : keyOf Tryz.prog 3 (.int .i64 x) = some (.int .i64 x) := keyOf_int_mk Tryz.underlying3 hwx
  cases hfa : firstAt (inos rs) x with
  | none =>
    have hp : Hid (∀ (e : Ending) (w' : World), e = .returned (.tuple #[.agg #[.int .i64 0, .int .i64 0, .int .i64 0, .slice none 0 0, .slice none 0 0, .slice none 0 0], .bool false]) → Below w.heap.size w w' → AtPost w rs x e w') := by
      intro e w' he hb
      have hD : atD rs x = inoZ.D := by unfold atD; rw [hfa]
      have hB : atB rs x = false := by unfold atB; rw [hfa]; rfl
      unfold AtPost
      rw [hD, hB]
      exact ⟨none, 0, none, 0, none, 0, he, inoG_zero _ _ _, hb⟩
    generalize AtPost w rs x = P at hp ⊢
    go_enter Tryz.func114, Tryz.ntmps114
    go_wp2_with fail
    obtain ⟨W0, hW0⟩ : ∃ W, ((w.alloc (.cells #[.slice a n cap, .int .i64 nx] 47)).alloc (.cells #[.int .i64 0, .int .i64 0, .int .i64 0, .slice none 0 0, .slice none 0 0, .slice none 0 0] 68)) = W := ⟨_, rfl⟩
    rw [hW0] at B0 zT zR hsz ⊢
    have HSZ : Hid _ := hsz
    clear hW0 hsz
    have hcL := byNumber_any a n cap nx rs W0 hn hs hwf (hr.keep B0)
    have HF : Hid _ := hfa
    clear hn hsm hr hwf hwx
    (with_reducible refine hcL.mono ?_)
    rintro e w1 ⟨cnt, D, rfl, hcnt, hM, hown, b1⟩
    have hhas : Maps.has D (.int .i64 x) = false := by rw [(hM.2 x).1, HF.out]; rfl
    clear hM hfa
    have zr := zR.keep b1
    obtain ⟨t0, t1, t2, t3, t4, t5⟩ := zr.six
    have fz0 := zr.frozen 0
    have fz1 := zr.frozen 1
    have fz2 := zr.frozen 2
    have fz3 := zr.frozen 3
    have fz4 := zr.frozen 4
    have fz5 := zr.frozen 5
    have HG : Hid _ := And.intro zr (B0.trans (b1.mono B0.size))
    clear zr zR zT B0 b1 hcL
    go_wp2_with (first
      | (at_lookup; refine wpList_lookup_own_ok_int _ rfl _ _ 157 rfl 3 3 .i64 Tryz.keyInt Tryz.underlying157 Tryz.underlying3 (Tryz.zeroInt _) (W0.heap.size + 1) cnt D rfl hown _ _ rfl hkey ?_; intro c hat hwc; rw [hhas])
      | go_in)
    have zf := ((((((show Blk w1 (w.heap.size + 1) 68 _ from HG.out.1).set 0 (.int .i64 0)).set 1 (.int .i64 0)).set 2 (.int .i64 0)).set 3 (.slice none 0 0)).set 4 (.slice none 0 0)).set 5 (.slice none 0 0)
    have dd0 := zf.cell 0
    have dd1 := zf.cell 1
    have dd2 := zf.cell 2
    have dd3 := zf.cell 3
    have dd4 := zf.cell 4
    have dd5 := zf.cell 5
    simp at dd0 dd1 dd2 dd3 dd4 dd5
    refine bodyPost_ret (v := .tuple #[.agg #[.int .i64 0, .int .i64 0, .int .i64 0, .slice none 0 0, .slice none 0 0, .slice none 0 0], .bool false]) (by simp [results, Tryz.f114, go_sem, dd0, dd1, dd2, dd3, dd4, dd5]) rfl ?_
    exact hp.out _ _ rfl (at_stored HG.out.2 (inoG_zero w1 (w.heap.size + 1 + 1) w1.heap.size) HG.out.1 (Nat.lt_succ_self _) _ _ _ _ _ _).2
  | some p =>
    have hpl := firstAt_in hfa
    obtain ⟨r, hrp⟩ : ∃ r, rs[p]? = some r := ⟨_, List.getElem?_eq_getElem hpl⟩
    have hp : Hid (∀ (e : Ending) (w' : World) (b1 : Option Addr) (d1 : Nat) (b2 : Option Addr) (d2 : Nat) (b3 : Option Addr) (d3 : Nat), e = .returned (.tuple #[.agg #[.int .i64 r.D.ino, .int .i64 r.D.kind, .int .i64 r.D.links, .slice b1 r.D.data.length d1, .slice b2 r.D.ents.length d2, .slice b3 r.D.attrs.length d3], .bool true]) → InoG w' w.heap.size w'.heap.size r.D (.slice b1 r.D.data.length d1) (.slice b2 r.D.ents.length d2) (.slice b3 r.D.attrs.length d3) → Below w.heap.size w w' → AtPost w rs x e w') := by
      intro e w' b1 d1 b2 d2 b3 d3 he hg hb
      have hD : atD rs x = r.D := by unfold atD; rw [hfa]; simp [List.getD_eq_getElem?_getD, hrp]
      have hB : atB rs x = true := by unfold atB; rw [hfa]; rfl
      unfold AtPost
      rw [hD, hB]
      exact ⟨b1, d1, b2, d2, b3, d3, he, hg, hb⟩
    have hpn : p < n := by omega
    have hpi : (p : Int) < (n : Int) := by omega
    have hpp : (0 : Int) ≤ (p : Int) := by omega
    have hpq : ¬ (p : Int) < 0 := by omega
    generalize AtPost w rs x = P at hp ⊢
    go_enter Tryz.func114, Tryz.ntmps114
    go_wp2_with fail
    obtain ⟨W0, hW0⟩ : ∃ W, ((w.alloc (.cells #[.slice a n cap, .int .i64 nx] 47)).alloc (.cells #[.int .i64 0, .int .i64 0, .int .i64 0, .slice none 0 0, .slice none 0 0, .slice none 0 0] 68)) = W := ⟨_, rfl⟩
    rw [hW0] at B0 zT zR hsz ⊢
    have HSZ : Hid _ := hsz
    clear hW0 hsz
    have hr0 := hr.keep B0
    have hcL := byNumber_any a n cap nx rs W0 hn hs hwf hr0
    have hsr := hsm r (List.mem_of_getElem? hrp)
    have HF : Hid _ := hfa
    have HQ : Hid _ := hrp
    have HP : Hid _ := hpl
    clear hsm hr hfa hrp hpl hn hwf hwx
    (with_reducible refine hcL.mono ?_)
    rintro e w1 ⟨cnt, D, rfl, hcnt, hM, hown, b1⟩
    have hhas : Maps.has D (.int .i64 x) = true := by rw [(hM.2 x).1, HF.out]; rfl
    have hat0 := (hM.2 x).2 p HF.out
    clear hM
    have zt := (zT.keep b1).cell 0
    simp at zt
    obtain ⟨b, off, rfl, hlt, hc⟩ := (hr0.keep b1).lt (by intro h; have := hn'.out; rw [h] at this; simp at this; omega)
    obtain ⟨⟨x0, x1, x2, x3, x4, x5⟩, xr⟩ := hc p r HQ.out
    have hcC := copyInode_any r.D r.a1 r.a2 r.a3 r.c1 r.c2 r.c3 w1 hsr xr
    have HG1 : Hid _ := And.intro (zR.keep b1) (And.intro (B0.trans (b1.mono B0.size)) b1.size)
    clear zR zT B0 b1 hcL hc hr0
    go_wp2_with (first
      | (at_lookup; refine wpList_lookup_own_ok_int _ rfl _ _ 157 rfl 3 3 .i64 Tryz.keyInt Tryz.underlying157 Tryz.underlying3 (Tryz.zeroInt _) (W0.heap.size + 1) cnt D rfl hown _ _ rfl hkey ?_; intro c hat hwc; rw [hhas]; rw [hat0] at hat; simp at hat; subst hat)
      | fail)
    (with_reducible refine hcC.mono ?_)
    rintro e w2 ⟨b1, d1, b2, d2, b3, d3, rfl, g2, bb2⟩
    have zr := Blk.keep HG1.out.1 bb2
    obtain ⟨t0, t1, t2, t3, t4, t5⟩ := zr.six
    have fz0 := zr.frozen 0
    have fz1 := zr.frozen 1
    have fz2 := zr.frozen 2
    have fz3 := zr.frozen 3
    have fz4 := zr.frozen 4
    have fz5 := zr.frozen 5
    have HG : Hid _ := And.intro zr (And.intro (HG1.out.2.1.trans (bb2.mono HG1.out.2.1.size)) g2)
    clear zr g2 bb2 hcC x0 x1 x2 x3 x4 x5 zt
    go_wp2
    have zf := ((((((show Blk w2 (w.heap.size + 1) 68 _ from HG.out.1).set 0 (.int .i64 r.D.ino)).set 1 (.int .i64 r.D.kind)).set 2 (.int .i64 r.D.links)).set 3 (.slice b1 r.D.data.length d1)).set 4 (.slice b2 r.D.ents.length d2)).set 5 (.slice b3 r.D.attrs.length d3)
    have dd0 := zf.cell 0
    have dd1 := zf.cell 1
    have dd2 := zf.cell 2
    have dd3 := zf.cell 3
    have dd4 := zf.cell 4
    have dd5 := zf.cell 5
    simp at dd0 dd1 dd2 dd3 dd4 dd5
    refine bodyPost_ret (v := .tuple #[.agg #[.int .i64 r.D.ino, .int .i64 r.D.kind, .int .i64 r.D.links, .slice b1 r.D.data.length d1, .slice b2 r.D.ents.length d2, .slice b3 r.D.attrs.length d3], .bool true]) (by simp [results, Tryz.f114, go_sem, dd0, dd1, dd2, dd3, dd4, dd5]) rfl ?_
    have hst := at_stored HG.out.2.1 HG.out.2.2 HG.out.1 (by have := HG1.out.2.2; have := HSZ.out; omega) (.int .i64 r.D.ino) (.int .i64 r.D.kind) (.int .i64 r.D.links) (.slice b1 r.D.data.length d1) (.slice b2 r.D.ents.length d2) (.slice b3 r.D.attrs.length d3)
    exact hp.out _ _ _ _ _ _ _ _ rfl hst.1 hst.2
end

section
open Go.RowKit
theorem OwnI.rds {w : World} {g n cap : Nat} {rs : List InoR} (h : OwnI w g n cap rs) (hr : ∀ r ∈ rs, r.rd w) : RdI w (some ⟨g, 0, none⟩) rs :=
  .inr ⟨g, 0, rfl, fun i r hi => by
    rw [Nat.zero_add]
    exact ⟨h.six i r hi, hr r (List.mem_of_getElem? hi)⟩⟩
/-- The inode 1 of the new table. -/
def ino1 : InoR := ⟨⟨1, 2, 0, [], [], []⟩, none, 0, none, 0, none, 0⟩
theorem ino1_rd (w : World) : ino1.rd w := ⟨.inl rfl, fun z hz => by simp [ino1] at hz, .inl rfl, .inl rfl⟩
theorem ino1_small : InoSmall ino1.D := ⟨by simp [ino1], by simp [ino1], by simp [ino1], by simp [ino1], by simp [ino1]⟩
theorem own_one (w : World) : OwnI (w.alloc (.cells #[.int .i64 1, .int .i64 2, .int .i64 0, .slice none 0 0, .slice none 0 0, .slice none 0 0] 68)) w.heap.size 1 1 [ino1] := by
  exact ⟨rfl, .inr ⟨w.heap.size, 1, _, rfl, Nat.zero_le _, heap_alloc_new w _, Nat.le_refl _, by unfold maxLen; omega, rfl, rfl⟩⟩
/-- What both TabNew functions answer. -/
def NewPost (w : World) (e : Ending) (w' : World) : Prop := ∃ g, e = .returned (.agg #[.slice (some ⟨g, 0, none⟩) 1 1, .int .i64 2]) ∧ w.heap.size ≤ g ∧ OwnI w' g 1 1 [ino1] ∧ Below w.heap.size w w'
theorem newPost_of (w : World) : NewPost w (.returned (.agg #[.slice (some ⟨w.heap.size + 1, 0, none⟩) 1 1, .int .i64 2])) ((w.alloc (.cells #[.slice (some ⟨w.heap.size + 1, 0, none⟩) 1 1, .int .i64 2] 47)).alloc (.cells #[.int .i64 1, .int .i64 2, .int .i64 0, .slice none 0 0, .slice none 0 0, .slice none 0 0] 68)) := by
  have h := own_one (w.alloc (.cells #[.slice (some ⟨w.heap.size + 1, 0, none⟩) 1 1, .int .i64 2] 47))
  simp only [World.size_alloc] at h
  exact ⟨w.heap.size + 1, rfl, by omega, h, ((Below.refl _ w).alloc (Nat.le_refl _) _).alloc (by simp) _⟩
set_option maxHeartbeats 800000 in
theorem tabNewI (w : World) : Calls Tryz.prog 42 #[] w fun e w' => NewPost w e w' := by
  go_enter Tryz.func42, Tryz.ntmps42
  go_wp2
  refine bodyPost_ret (v := .agg #[.slice (some ⟨w.heap.size + 1, 0, none⟩) 1 1, .int .i64 2]) (by simp [results, Tryz.f42, go_sem]) rfl ?_
  exact newPost_of w
end

section
open Go.RowKit
theorem inos_D (rs : List InoR) : inos rs = (rs.map InoR.D).map fun D => D.ino := by simp [inos]
end

section
open Go.RowKit
theorem DQT.cases {B : Nat} {W : World} {a : Option Addr} {n c : Nat} {ds : List InoR} {js : List InoJ} (h : DQT B W (.slice a n c) ds js) (hn : js.length = n) : (a = none ∧ js = [] ∧ n = 0 ∧ c = 0) ∨ ∃ g, a = some ⟨g, 0, none⟩ ∧ B ≤ g ∧ OwnI W g n c (js.map InoJ.r) := by
  have hr := h.row
  rw [hn] at hr
  rcases hr.2 with ⟨h1, h2⟩ | ⟨g, c', cur, h1, h2, rest⟩
  · simp at h1
    obtain ⟨rfl, h3, rfl⟩ := h1
    exact .inl ⟨rfl, List.length_eq_zero_iff.1 (by omega), h3, rfl⟩
  · simp at h1
    obtain ⟨rfl, rfl⟩ := h1
    exact .inr ⟨g, rfl, h2, ⟨hr.1, .inr ⟨g, _, cur, rfl, Nat.zero_le _, rest⟩⟩⟩
theorem InoJ.G.rd {w : World} {j : InoJ} (h : j.G w) : j.r.rd w := by
  obtain ⟨a1, c1, a2, c2, a3, c3, e1, e2, e3, hr⟩ := InoG.form h
  simp [InoJ.v1] at e1
  simp [InoJ.v2] at e2
  simp [InoJ.v3] at e3
  unfold InoR.rd
  rw [e1.1, e2.1, e3.1]
  exact hr
theorem DQT.rd {B : Nat} {W : World} {a : Option Addr} {n c : Nat} {ds : List InoR} {js : List InoJ} (h : DQT B W (.slice a n c) ds js) (hn : js.length = n) : RdI W a (js.map InoJ.r) := by
  rcases h.cases hn with ⟨_, rfl, _, _⟩ | ⟨g, rfl, _, ho⟩
  · exact .inl rfl
  · refine OwnI.rds ho (fun r hr => ?_)
    obtain ⟨j, hj, rfl⟩ := List.mem_map.1 hr
    obtain ⟨i, hi⟩ := List.getElem?_of_mem hj
    exact (h.jq.G i j hi).rd
theorem DQT.small {B : Nat} {W : World} {v : Value} {ds : List InoR} {js : List InoJ} (h : DQT B W v ds js) (hs : ∀ r ∈ ds, InoSmall r.D) : ∀ r ∈ js.map InoJ.r, InoSmall r.D := by
  intro r hr
  have h1 : r.D ∈ (js.map InoJ.r).map InoR.D := List.mem_map_of_mem hr
  rw [h.ds] at h1
  obtain ⟨q, hq, hqr⟩ := List.mem_map.1 h1
  rw [← hqr]
  exact hs q hq
/-- That the parts of a table lie apart, below T. -/
def ApV (T : Nat) (v : Value) (js : List InoJ) : Prop := (∀ (i : Nat) (j : InoJ), js[i]? = some j → j.hi ≤ T) ∧ ∀ g, v.ownBlock = some g → g < T
theorem DQT.apV {B : Nat} {W : World} {v : Value} {ds : List InoR} {js : List InoJ} (h : DQT B W v ds js) : ApV W.heap.size v js := ⟨fun i j e => (h.jq.lo i j e).2.2, fun g hg => (World.ownsRow.lt h.row g hg).2⟩
theorem DQT.cong {B : Nat} {W : World} {v : Value} {ds ds' : List InoR} {js : List InoJ} (h : DQT B W v ds js) (he : ds.map InoR.D = ds'.map InoR.D) : DQT B W v ds' js := ⟨by rw [h.ds, he], h.row, h.jq, h.ap⟩
end
end Go.Proofs.YtbjfihabkpianaaGreatDoor
