/-
  What the program's DropInode answers.
-/
import Derived.Test.YtnllhpeddoaehaaDropS
import Derived.Test.YtnllhpeddoaehaaAtS
import Derived.Test.YtnllhpeddoaehaaCopyI
namespace Go.Proofs.Ytnllhpeddoaehaa
open Go.RowKit Go.Maps

theorem below_grown {W W' : World} (h : Below W.heap.size W W') : W.grownBy W' none := ⟨h.os, h.tape, h.output, h.size, fun k hk _ => h.block k hk⟩
theorem has_del {D : DataW Unit} {rs : List InoR} (hM : MapIs D (inos rs)) {k : Nat} {r : InoR} (h : rs[k]? = some r) (x : Int) : Maps.has (D.del (.int .i64 x)) (.int .i64 r.D.ino) = (r.D.ino != x) := by
  have hs : (firstAt (inos rs) r.D.ino).isSome = true := by
    cases hf : firstAt (inos rs) r.D.ino with
    | some p => rfl
    | none =>
      unfold firstAt at hf
      rw [List.findIdx?_eq_none_iff] at hf
      have := hf r.D.ino (List.mem_of_getElem? (inos_is h))
      simp at this
  by_cases he : r.D.ino = x
  · rw [he]
    have := has_del_same (D := D) (k := .int .i64 x)
    rw [this]
    simp
  · rw [has_del_other (by simpa using he), (hM.2 r.D.ino).1, hs]
    simp [he]

set_option maxRecDepth 100000 in
set_option maxHeartbeats 4000000 in
theorem dropI (a : Option Addr) (n cap : Nat) (nx x : Int) (rs : List InoR) (w : World) (hn : rs.length = n) (hs : n ≤ 1048576) (hwx : (Lit.int .i64 x).wf = true) (hwf : ∀ r ∈ rs, (Lit.int .i64 r.D.ino).wf = true) (hsm : ∀ r ∈ rs, InoSmall r.D) (hr : RdI w a rs) :
    Calls Try.prog 29 #[.agg #[.slice a n cap, .int .i64 nx], .int .i64 x] w fun e w' => DropPost w nx (dropR rs x) e w' := by
  obtain ⟨ii, hii, zi0, zi1, zi2⟩ := info_parts Try.infoInode
  have hn' : Hid (rs.length = n) := hn
  have HR : Hid _ := hr
  have HS : Hid _ := hsm
  have HW : Hid _ := hwf
  have hkx : keyOf Try.prog 3 (.int .i64 x) = some (.int .i64 x) := keyOf_int_mk Try.underlying3 hwx
  have B0 : Below w.heap.size w ((w.alloc (.cells #[.slice a n cap, .int .i64 nx] 43)).alloc (.cells #[.slice none 0 0, .int .i64 0] 43)) := ((Below.refl _ w).alloc (Nat.le_refl _) _).alloc (by simp) _
  have z0 := (Blk.new w 43 #[.slice a n cap, .int .i64 nx]).alloc (.cells #[.slice none 0 0, .int .i64 0] 43)
  have z1 := (Blk.new (w.alloc (.cells #[.slice a n cap, .int .i64 nx] 43)) 43 #[.slice none 0 0, .int .i64 0])
  simp only [World.size_alloc] at z1
  have hsz : ((w.alloc (.cells #[.slice a n cap, .int .i64 nx] 43)).alloc (.cells #[.slice none 0 0, .int .i64 0] 43)).heap.size = w.heap.size + 1 + 1 := by simp
  go_enter Try.func29, Try.ntmps29
  go_wp2_with fail
  obtain ⟨W0, hW0⟩ : ∃ W, (w.alloc (.cells #[.slice a n cap, .int .i64 nx] 43)).alloc (.cells #[.slice none 0 0, .int .i64 0] 43) = W := ⟨_, rfl⟩
  rw [hW0] at B0 z0 z1 hsz ⊢
  have HSZ : Hid _ := hsz
  clear hW0 hsz
  have hcB := byNumber_any a n cap nx rs W0 hn (by omega) hwf (hr.keep B0)
  clear hr hsm hn hwf
  (with_reducible refine hcB.mono ?_)
  rintro e w1 ⟨cnt, D, rfl, hcnt, hM, hown, b1⟩
  obtain ⟨M, hMM⟩ : ∃ M, W0.heap.size + 1 = M := ⟨_, rfl⟩
  rw [hMM] at hown ⊢
  have hmlt := hown.lt
  have B1 := B0.trans (b1.mono B0.size)
  have y0 := z0.keep b1
  have y1 := z1.keep b1
  have HM : Hid _ := hM
  have hwM : w.heap.size + 1 < M := by have := HSZ.out; omega
  clear z0 z1 B0 b1 hcB hM hMM
  have t1 := y0.cell 1
  simp at t1
  go_upto_region 3 with (at_delete; refine wpList_delete_own _ rfl _ _ 100 3 rfl 3 Try.keyInt Try.underlying100 _ M cnt D rfl hown _ _ rfl hkx ?_; intro w2 hown2 hturn2)
  have g2 := hturn2.grown
  have B2 : Below w.heap.size w w2 := B1.grown g2 B1.size (fun m hm => by simp at hm; omega)
  have u0 := y0.kept g2 (by omega)
  have u1 := y1.kept g2 (by omega)
  have hs2 := g2.size
  clear hown hturn2 g2 y0 y1 B1 t1
  have dx0 : DX w (w2.alloc (.cells #[.slice none 0 0, .int .i64 nx] 43)) w2.heap.size nx (.slice a n cap) (.slice none 0 0) [] [] :=
    ⟨B2.alloc B2.size _, u0.alloc _, u1.alloc _, Blk.new w2 _ _, u1.lt, DQT.nil _ _⟩
  have hown3 := hown2.alloc (.cells #[.slice none 0 0, .int .i64 nx] 43)
  have hMX : M < w2.heap.size := by omega
  have t0 := u0.cell 0
  have t1 := u0.cell 1
  have t2 := dx0.tb.cell 0
  simp at t0 t1 t2
  go_wp2
  clear t0 t1 t2 u0 u1 B2 hown2
  obtain ⟨W2, hW2⟩ : ∃ W, w2.alloc (.cells #[.slice none 0 0, .int .i64 nx] 43) = W := ⟨_, rfl⟩
  obtain ⟨X, hX⟩ : ∃ X, w2.heap.size = X := ⟨_, rfl⟩
  rw [hW2] at dx0 hown3 ⊢
  rw [hX] at dx0 hMX ⊢
  clear hW2 hs2 hX
  go_loopw [21] (fun i wr => ∃ (k : Nat) (v : Value) (js : List InoJ), k ≤ n ∧ i = .int .i64 k ∧ DX w wr X nx (.slice a n cap) v (dropR (rs.take k) x) js ∧ wr.ownsMap Try.prog 3 (plainElem Try.prog 3) M cnt (D.del (.int .i64 x))) (fun i _ => n - (intOf i).toNat)
  case atStart => exact ⟨0, .slice none 0 0, [], Nat.zero_le _, rfl, dx0, hown3⟩
  case round =>
    obtain ⟨k, v, js, hk, rfl, dx, hown⟩ := hrel
    clear dx0 hown3
    by_cases hkn : k < n
    · have hki : (k : Int) < (n : Int) := by omega
      have hkz : (0 : Int) ≤ (k : Int) := by omega
      obtain ⟨r, hrk⟩ : ∃ r, rs[k]? = some r := ⟨_, List.getElem?_eq_getElem (by rw [hn'.out]; exact hkn)⟩
      obtain ⟨b, off, rfl, hlt, hc⟩ := (RdI.keep HR.out dx.below).lt (by intro h; have := hn'.out; rw [h] at this; simp at this; omega)
      obtain ⟨⟨x0, x1, x2, x3, x4, x5⟩, xr⟩ := hc k r hrk
      have hsr := HS.out r (List.mem_of_getElem? hrk)
      have hkey : keyOf Try.prog 3 (.int .i64 r.D.ino) = some (.int .i64 r.D.ino) := keyOf_int_mk Try.underlying3 (HW.out r (List.mem_of_getElem? hrk))
      have hhas := has_del HM.out hrk x
      have b8 : Below wr.heap.size wr (wr.alloc (.cells #[.int .i64 r.D.ino, .int .i64 r.D.kind, .int .i64 r.D.links, .slice r.a1 r.D.data.length r.c1, .slice r.a2 r.D.ents.length r.c2, .slice r.a3 r.D.attrs.length r.c3] 27)) := (Below.refl _ wr).alloc (Nat.le_refl _) _
      have zE := Blk.new wr 27 #[.int .i64 r.D.ino, .int .i64 r.D.kind, .int .i64 r.D.links, .slice r.a1 r.D.data.length r.c1, .slice r.a2 r.D.ents.length r.c2, .slice r.a3 r.D.attrs.length r.c3]
      have dx8 := dx.keep b8
      have hown8 := hown.alloc (.cells #[.int .i64 r.D.ino, .int .i64 r.D.kind, .int .i64 r.D.links, .slice r.a1 r.D.data.length r.c1, .slice r.a2 r.D.ents.length r.c2, .slice r.a3 r.D.attrs.length r.c3] 27)
      have xr8 := InoRd.keep xr b8
      by_cases he : r.D.ino = x
      · have hb : (r.D.ino != x) = false := by simp [he]
        rw [hb] at hhas
        have hds : Hid _ := dropR_no hrk he
        have HDX : Hid _ := And.intro dx8 hown8
        clear hc hrk xr xr8 hsr dx dx8 hb he
        go_wp2_with (first
          | (at_lookup; refine wpList_lookup_own_ok_int _ rfl _ _ 100 rfl 3 3 .i64 Try.keyInt Try.underlying100 Try.underlying3 (Try.zeroInt _) M cnt (D.del (.int .i64 x)) rfl hown8 _ _ rfl hkey ?_; intro c hat hwc; rw [hhas])
          | go_in)
        go_roundw
        case rel => exact ⟨k + 1, v, js, by omega, by go_num, by rw [hds.out]; exact HDX.out.1, HDX.out.2⟩
        case measure => simp [intOf]; omega
      · have hb : (r.D.ino != x) = true := by simp [he]
        rw [hb] at hhas
        have hds : Hid _ := dropR_yes hrk he
        have hlj : js.length ≤ n := by rw [dx.q.len]; exact Nat.le_trans (dropR_len rs x k) hk
        obtain ⟨ds, hds'⟩ : ∃ l, dropR (rs.take k) x = l := ⟨_, rfl⟩
        rw [hds'] at hds dx8
        clear hc hrk xr dx hb hds'
        go_upto_region 9 with (first
          | (at_lookup; refine wpList_lookup_own_ok_int _ rfl _ _ 100 rfl 3 3 .i64 Try.keyInt Try.underlying100 Try.underlying3 (Try.zeroInt _) M cnt (D.del (.int .i64 x)) rfl hown8 _ _ rfl hkey ?_; intro c hat hwc; rw [hhas])
          | fail)
        obtain ⟨E, hE⟩ : ∃ E, wr.heap.size = E := ⟨_, rfl⟩
        obtain ⟨W8, hW8⟩ : ∃ W, wr.alloc (.cells #[.int .i64 r.D.ino, .int .i64 r.D.kind, .int .i64 r.D.links, .slice r.a1 r.D.data.length r.c1, .slice r.a2 r.D.ents.length r.c2, .slice r.a3 r.D.attrs.length r.c3] 27) = W := ⟨_, rfl⟩
        rw [hW8] at dx8 hown8 zE xr8 ⊢
        rw [hE] at zE ⊢
        clear hW8 hE b8 x0 x1 x2 x3 x4 x5 hown hlt
        have hcC := copyInode_any r.D r.a1 r.a2 r.a3 r.c1 r.c2 r.c3 W8.drew hsr (InoRd.keep xr8 (Below.refl W8.heap.size W8).drew)
        have o0 := dx8.out.cell 0
        simp at o0
        obtain ⟨e0, e1, e2, e3, e4, e5⟩ := zE.six
        go_region_law (first
          | (go_simp; go_at_call 78; (with_reducible refine hcC.mono ?_); rintro e w10 ⟨b1, d1, b2, d2, b3, d3, rfl, gC, bC⟩; have b11 : Below W8.heap.size W8 w10 := (Below.refl W8.heap.size W8).drew.trans bC; have dx10 := dx8.keep b11; have o1 := dx10.out.cell 0; have o2 := (dx10.out.alloc (.cells #[.int .i64 r.D.ino, .int .i64 r.D.kind, .int .i64 r.D.links, .slice b1 r.D.data.length d1, .slice b2 r.D.ents.length d2, .slice b3 r.D.attrs.length d3] 27)).cell 0; simp at o1 o2; have hrow := World.ownsRow.alloc dx10.q.row (.cells #[.int .i64 r.D.ino, .int .i64 r.D.kind, .int .i64 r.D.links, .slice b1 r.D.data.length d1, .slice b2 r.D.ents.length d2, .slice b3 r.D.attrs.length d3] 27); have hbw : X + 1 ≤ (w10.alloc (.cells #[.int .i64 r.D.ino, .int .i64 r.D.kind, .int .i64 r.D.links, .slice b1 r.D.data.length d1, .slice b2 r.D.ents.length d2, .slice b3 r.D.attrs.length d3] 27)).heap.size := (by simp; have := dx10.out.lt; omega); dsimp only)
          | (refine step_append_lies (w10.alloc (.cells #[.int .i64 r.D.ino, .int .i64 r.D.kind, .int .i64 r.D.links, .slice b1 r.D.data.length d1, .slice b2 r.D.ents.length d2, .slice b3 r.D.attrs.length d3] 27)) rfl (.tmp 34) (.tmp 37) 41 rfl (X + 1) 27 ii _ 6 96 Try.underlying41 hii zi0 zi1 zi2 rfl (by omega) v js.length (iv (js.map InoJ.r)) rfl hrow ⟨w10.heap.size, 0, none⟩ 1 1 (InoR.six ⟨r.D, b1, d1, b2, d2, b3, d3⟩) rfl rfl (six_news w10 ⟨r.D, b1, d1, b2, d2, b3, d3⟩ _) (six_one _) (by omega) (by unfold maxLen; omega) (by omega) hbw (w10.heap.size + 1) (by simp) ?_; intro g2 cc2 w12 ho12 hg12 hat12 hlt12; obtain ⟨o12, dx12⟩ := dx8.app b11 r ⟨r.D, b1, d1, b2, d2, b3, d3⟩ rfl gC (.cells #[.int .i64 r.D.ino, .int .i64 r.D.kind, .int .i64 r.D.links, .slice b1 r.D.data.length d1, .slice b2 r.D.ents.length d2, .slice b3 r.D.attrs.length d3] 27) hg12 g2 (js.length + 1) cc2 rfl ho12 hat12; have m12 := (((hown8.kept (below_grown b11) (by simp)).alloc (.cells #[.int .i64 r.D.ino, .int .i64 r.D.kind, .int .i64 r.D.links, .slice b1 r.D.data.length d1, .slice b2 r.D.ents.length d2, .slice b3 r.D.attrs.length d3] 27)).kept hg12 (fun e => (by have := (World.ownsRow.lt dx8.q.row M e.symm).1; omega))).setCell (a := ⟨X, 0, none⟩) (by simp only; omega) (.slice (some ⟨g2, 0, none⟩) (js.length + 1) cc2); have c4 := o12.cell 0; have f4 := o12.frozen 0; simp at c4))
        all_goals clear dx10 hrow hbw
        all_goals go_wp2
        all_goals go_roundw
        all_goals first
          | (case rel => (repeat apply Exists.intro); exact ⟨⟨k + 1, _, _, by omega, by go_num, by rw [hds.out]; exact dx12, m12⟩, rfl⟩)
          | (case rel => exact ⟨k + 1, _, _, by omega, by go_num, by rw [hds.out]; exact dx12, m12⟩)
          | (case measure => simp [intOf]; omega)
    · have hki : ¬ (k : Int) < (n : Int) := by omega
      have hke : rs.take k = rs := List.take_of_length_le (by rw [hn'.out]; omega)
      rw [hke] at dx
      clear hke
      obtain ⟨va, vc, rfl⟩ := six_of_row dx.q.row
      obtain ⟨vn, hvn⟩ : ∃ m, js.length = m := ⟨_, rfl⟩
      have HVN : Hid _ := hvn
      have o0 := dx.out.cell 0
      have o1 := dx.out.cell 1
      have r0 := dx.res.cell 0
      have r1 := dx.res.cell 1
      have f0 := dx.res.frozen 0
      have f1 := dx.res.frozen 1
      simp at o0 o1 r0 r1
      rw [hvn] at o0
      have HG : Hid _ := dx
      clear dx hvn
      go_wp2
      have zf := (HG.out.res.set 0 (.slice va vn vc)).set 1 (.int .i64 nx)
      have dd0 := zf.cell 0
      have dd1 := zf.cell 1
      simp at dd0 dd1
      refine bodyPost_ret (v := .agg #[.slice va vn vc, .int .i64 nx]) (by simp [results, Try.f29, go_sem, dd0, dd1]) rfl ?_
      have hhx := HG.out.hX
      refine ⟨va, vc, js, by rw [HVN.out], ((HG.out.q.setX (X := w.heap.size + 1) (by omega) 0 (.slice va vn vc)).setX (X := w.heap.size + 1) (by omega) 1 (.int .i64 nx)).lower (by omega), ?_⟩
      exact (HG.out.below.setCell (p := ⟨w.heap.size + 1, 0, none⟩) (by simp only; omega) _).setCell (p := ⟨w.heap.size + 1, 1, none⟩) (by simp only; omega) _
end Go.Proofs.Ytnllhpeddoaehaa
