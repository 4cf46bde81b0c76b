/-
  One change of a table, drawn: l6Change.
-/
import Derived.Test.YtgcmpimckpnemaaA18T
namespace Go.Proofs.Ytgcmpimckpnemaa
open Go.RowKit
/-- What is known while a table is changed: the boxes, the cursor, the table. -/
structure CH (w W : World) (gc sn scap : Nat) (sa : Option Addr) (zs : List Int) (a : Option Addr) (n c : Nat) (nx : Int) (ds : List InoD) : Prop where
  src : Src W gc sn scap sa zs
  gr : w.grownBy W (some gc)
  zT : Blk W w.heap.size 26 #[.slice a n c, .int .i64 nx]
  zR : Blk W (w.heap.size + 1) 26 #[.slice none 0 0, .int .i64 0]
  tq : TQ (gc + 1) W a n c ds
  lt : gc < w.heap.size
theorem CH.step {w W W' : World} {gc sn scap : Nat} {sa : Option Addr} {zs : List Int} {a : Option Addr} {n c : Nat} {nx : Int} {ds : List InoD} (h : CH w W gc sn scap sa zs a n c nx ds) (hs : Src W' gc sn scap sa zs) (g : W.grownBy W' (some gc)) : CH w W' gc sn scap sa zs a n c nx ds :=
  ⟨hs, h.gr.trans g, h.zT.kept g (by have := h.lt; omega), h.zR.kept g (by have := h.lt; omega), h.tq.gr g (by omega), h.lt⟩
theorem CH.keep {w W W' : World} {gc sn scap : Nat} {sa : Option Addr} {zs : List Int} {a : Option Addr} {n c : Nat} {nx : Int} {ds : List InoD} (h : CH w W gc sn scap sa zs a n c nx ds) (b : Below W.heap.size W W') : CH w W' gc sn scap sa zs a n c nx ds := h.step (h.src.keep b) (gr_of_below b _)
theorem CH.al {w W : World} {gc sn scap : Nat} {sa : Option Addr} {zs : List Int} {a : Option Addr} {n c : Nat} {nx : Int} {ds : List InoD} (h : CH w W gc sn scap sa zs a n c nx ds) (o : Obj) : CH w (W.alloc o) gc sn scap sa zs a n c nx ds := h.keep ((Below.refl _ W).alloc (Nat.le_refl _) o)
theorem CH.dr {w W : World} {gc sn scap : Nat} {sa : Option Addr} {zs : List Int} {a : Option Addr} {n c : Nat} {nx : Int} {ds : List InoD} (h : CH w W gc sn scap sa zs a n c nx ds) : CH w W.drew gc sn scap sa zs a n c nx ds := h.keep (Below.refl _ W).drew
/-- What a change answers. -/
def ChP (w : World) (gc sn scap : Nat) (sa : Option Addr) (zs : List Int) (e : Ending) (w' : World) : Prop :=
  ∃ (a : Option Addr) (n c : Nat) (nx : Int) (ds : List InoD), e = .returned (.agg #[.slice a n c, .int .i64 nx]) ∧ TQ w.heap.size w' a n c ds ∧ Src w' gc sn scap sa zs ∧ w.grownBy w' (some gc)
theorem TQ.setX {B : Nat} {W : World} {a : Option Addr} {n c : Nat} {ds : List InoD} (h : TQ B W a n c ds) {X : Nat} (hX : X < B) (i : Nat) (u : Value) : TQ B (W.setCell ⟨X, i, none⟩ u) a n c ds := by
  obtain ⟨js, hn, hq⟩ := h.ex
  exact ⟨⟨js, hn, hq.setX hX i u⟩, h.good⟩
theorem CH.fin {w V V' : World} {gc sn scap : Nat} {sa : Option Addr} {zs : List Int} {a a' : Option Addr} {n c n' c' : Nat} {nx nx' : Int} {ds ds' : List InoD} (h : CH w V gc sn scap sa zs a n c nx ds) (ht : TQ V.heap.size V' a' n' c' ds') (hb : Below V.heap.size V V') :
    ChP w gc sn scap sa zs (.returned (.agg #[.slice a' n' c', .int .i64 nx'])) ((((V'.setCell ⟨w.heap.size, 0, none⟩ (.slice a' n' c')).setCell ⟨w.heap.size, 1, none⟩ (.int .i64 nx')).setCell ⟨w.heap.size + 1, 0, none⟩ (.slice a' n' c')).setCell ⟨w.heap.size + 1, 1, none⟩ (.int .i64 nx')) := by
  have h1 := h.zT.lt
  have h2 := h.zR.lt
  have h3 := h.lt
  have h4 := h.keep hb
  refine ⟨a', n', c', nx', ds', rfl, ((((ht.setX h1 _ _).setX h1 _ _).setX h2 _ _).setX h2 _ _).lower (by omega), ?_, ?_⟩
  · exact (((h4.src.other (gr_setC _ _ _ _) h3).other (gr_setC _ _ _ _) h3).other (gr_setC _ _ _ _) (by omega)).other (gr_setC _ _ _ _) (by omega)
  · exact gr_mono (gr_mono (gr_mono (gr_mono h4.gr (.inr (Nat.le_refl _)) (gr_setC _ _ _ _)) (.inr (Nat.le_refl _)) (gr_setC _ _ _ _)) (.inr (by omega)) (gr_setC _ _ _ _)) (.inr (by omega)) (gr_setC _ _ _ _)
set_option maxRecDepth 100000 in
set_option maxHeartbeats 8000000 in
theorem changeS (gc sn scap : Nat) (sa : Option Addr) (zs : List Int) (a : Option Addr) (n c : Nat) (nx : Int) (ds : List InoD) (w : World) (h : Src w gc sn scap sa zs) (ht : TQ (gc + 1) w a n c ds) :
    Calls Try.prog 80 #[.pointer (some ⟨gc, 0, none⟩), .agg #[.slice a n c, .int .i64 nx]] w fun e w' => ChP w gc sn scap sa zs e w' := by
  have hgc := h.cur.lt
  have zT : Blk ((w.alloc (.cells #[.slice a n c, .int .i64 nx] 26)).alloc (.cells #[.slice none 0 0, .int .i64 0] 26)) w.heap.size 26 #[.slice a n c, .int .i64 nx] := (Blk.new w _ _).alloc _
  have zR := Blk.new (w.alloc (.cells #[.slice a n c, .int .i64 nx] 26)) 26 #[.slice none 0 0, .int .i64 0]
  simp only [World.size_alloc] at zR
  have B0 : Below w.heap.size w ((w.alloc (.cells #[.slice a n c, .int .i64 nx] 26)).alloc (.cells #[.slice none 0 0, .int .i64 0] 26)) := ((Below.refl _ w).alloc (Nat.le_refl _) _).alloc (by simp) _
  have ch0 : CH w _ gc sn scap sa zs a n c nx ds := ⟨h.keep B0, gr_of_below B0 _, zT, zR, ht.keep B0, hgc⟩
  have hgd : Hid _ := ht.good
  clear zT zR B0 h ht
  go_enter Try.func80, Try.ntmps80
  go_wp2_with fail
  obtain ⟨W0, hW0⟩ : ∃ W, (w.alloc (.cells #[.slice a n c, .int .i64 nx] 26)).alloc (.cells #[.slice none 0 0, .int .i64 0] 26) = W := ⟨_, rfl⟩
  rw [hW0] at ch0 ⊢
  clear hW0
  obtain ⟨rs0, hT0, hD0⟩ := ch0.tq.tr
  (with_reducible refine (l6PathS gc sn scap sa zs a n c nx ds rs0 W0 ch0.src hT0 hD0).mono ?_)
  rintro e W1 ⟨p, rfl, hp, hs1, hg1⟩
  have ch1 := ch0.step hs1 hg1
  clear ch0 hs1 hg1 hT0 hD0
  go_wp2_with fail
  (with_reducible refine (path_step gc sn scap sa zs W1 ch1.src).mono ?_)
  rintro e W2 ⟨q, rfl, hq, hs2, hg2⟩
  have ch2 := ch1.step hs2 hg2
  clear ch1 hs2 hg2
  go_wp2_with fail
  refine (below_step gc sn scap sa zs 12 W2 ch2.src (by omega) (by omega)).mono ?_
  rintro e W3 ⟨x, rfl, hx, hs3, hg3⟩
  have ch3 := ch2.step hs3 hg3
  clear ch2 hs3 hg3
  obtain ⟨rs, hT, hD⟩ := ch3.tq.tr
  have t0 := ch3.zT.cell 0
  have t1 := ch3.zT.cell 1
  simp at t0 t1
  by_cases h0 : x = 0
  · subst h0
    rw [show ((0 : Nat) : Int) = 0 from rfl]
    have hc := makeDirS a n c nx rs q W3 hT (by omega)
    rw [hD] at hc
    have hg := good_make (nx := nx) hgd.out q 2
    obtain ⟨nx', ds', q', hm⟩ : ∃ x l y, makeD nx ds q 2 = (x, l, y) := ⟨_, _, _, rfl⟩
    rw [hm] at hc hg
    dsimp only at hc hg
    clear hm hT hD
    go_wp2_with fail
    (with_reducible refine hc.mono ?_)
    rintro e V hpost
    obtain ⟨a', n', c', rfl, hTQ, hbV⟩ := hpost.tq hg
    clear hc hg t0 t1
    have chV := ch3.keep hbV
    have u0 := chV.zT.cell 0
    have u1 := chV.zT.cell 1
    have f0 := chV.zT.frozen 0
    have f1 := chV.zT.frozen 1
    have zT1 := blk2 chV.zT (.slice a' n' c') (.int .i64 nx')
    have v0 := zT1.cell 0
    have v1 := zT1.cell 1
    have zR1 := (chV.zR.other (B' := w.heap.size) (by omega) 0 (.slice a' n' c')).other (B' := w.heap.size) (by omega) 1 (.int .i64 nx')
    have r0 := zR1.cell 0
    have r1 := zR1.cell 1
    have g0 := zR1.frozen 0
    have g1 := zR1.frozen 1
    simp at u0 u1 v0 v1 r0 r1
    have HZ : Hid _ := zR1
    have HF : Hid _ := ch3.fin (nx' := nx') hTQ hbV
    clear chV zT1 zR1 ch3 hTQ hbV hpost
    go_wp2
    have zf := blk2 HZ.out (.slice a' n' c') (.int .i64 nx')
    have dd0 := zf.cell 0
    have dd1 := zf.cell 1
    simp at dd0 dd1
    refine bodyPost_ret (v := .agg #[.slice a' n' c', .int .i64 nx']) (by simp [results, Try.f80, go_sem, dd0, dd1]) rfl ?_
    exact HF.out
  have n0 : ((x : Int) == 0) = false := by simp; omega
  by_cases h1 : x = 1
  · subst h1
    rw [show ((1 : Nat) : Int) = 1 from rfl]
    have hc := makeDirS a n c nx rs q W3 hT (by omega)
    rw [hD] at hc
    have hg := good_make (nx := nx) hgd.out q 2
    obtain ⟨nx', ds', q', hm⟩ : ∃ x l y, makeD nx ds q 2 = (x, l, y) := ⟨_, _, _, rfl⟩
    rw [hm] at hc hg
    dsimp only at hc hg
    clear hm hT hD
    go_wp2_with fail
    (with_reducible refine hc.mono ?_)
    rintro e V hpost
    obtain ⟨a', n', c', rfl, hTQ, hbV⟩ := hpost.tq hg
    clear hc hg t0 t1
    have chV := ch3.keep hbV
    have u0 := chV.zT.cell 0
    have u1 := chV.zT.cell 1
    have f0 := chV.zT.frozen 0
    have f1 := chV.zT.frozen 1
    have zT1 := blk2 chV.zT (.slice a' n' c') (.int .i64 nx')
    have v0 := zT1.cell 0
    have v1 := zT1.cell 1
    have zR1 := (chV.zR.other (B' := w.heap.size) (by omega) 0 (.slice a' n' c')).other (B' := w.heap.size) (by omega) 1 (.int .i64 nx')
    have r0 := zR1.cell 0
    have r1 := zR1.cell 1
    have g0 := zR1.frozen 0
    have g1 := zR1.frozen 1
    simp at u0 u1 v0 v1 r0 r1
    have HZ : Hid _ := zR1
    have HF : Hid _ := ch3.fin (nx' := nx') hTQ hbV
    clear chV zT1 zR1 ch3 hTQ hbV hpost
    go_wp2
    have zf := blk2 HZ.out (.slice a' n' c') (.int .i64 nx')
    have dd0 := zf.cell 0
    have dd1 := zf.cell 1
    simp at dd0 dd1
    refine bodyPost_ret (v := .agg #[.slice a' n' c', .int .i64 nx']) (by simp [results, Try.f80, go_sem, dd0, dd1]) rfl ?_
    exact HF.out
  have n1 : ((x : Int) == 1) = false := by simp; omega
  by_cases h2 : x = 2
  · subst h2
    rw [show ((2 : Nat) : Int) = 2 from rfl]
    have hc := makeFileS a n c nx rs q W3 hT (by omega)
    rw [hD] at hc
    have hg := good_make (nx := nx) hgd.out q 1
    obtain ⟨nx', ds', q', hm⟩ : ∃ x l y, makeD nx ds q 1 = (x, l, y) := ⟨_, _, _, rfl⟩
    rw [hm] at hc hg
    dsimp only at hc hg
    clear hm hT hD
    go_wp2_with fail
    (with_reducible refine hc.mono ?_)
    rintro e V hpost
    obtain ⟨a', n', c', rfl, hTQ, hbV⟩ := hpost.tq hg
    clear hc hg t0 t1
    have chV := ch3.keep hbV
    have u0 := chV.zT.cell 0
    have u1 := chV.zT.cell 1
    have f0 := chV.zT.frozen 0
    have f1 := chV.zT.frozen 1
    have zT1 := blk2 chV.zT (.slice a' n' c') (.int .i64 nx')
    have v0 := zT1.cell 0
    have v1 := zT1.cell 1
    have zR1 := (chV.zR.other (B' := w.heap.size) (by omega) 0 (.slice a' n' c')).other (B' := w.heap.size) (by omega) 1 (.int .i64 nx')
    have r0 := zR1.cell 0
    have r1 := zR1.cell 1
    have g0 := zR1.frozen 0
    have g1 := zR1.frozen 1
    simp at u0 u1 v0 v1 r0 r1
    have HZ : Hid _ := zR1
    have HF : Hid _ := ch3.fin (nx' := nx') hTQ hbV
    clear chV zT1 zR1 ch3 hTQ hbV hpost
    go_wp2
    have zf := blk2 HZ.out (.slice a' n' c') (.int .i64 nx')
    have dd0 := zf.cell 0
    have dd1 := zf.cell 1
    simp at dd0 dd1
    refine bodyPost_ret (v := .agg #[.slice a' n' c', .int .i64 nx']) (by simp [results, Try.f80, go_sem, dd0, dd1]) rfl ?_
    exact HF.out
  have n2 : ((x : Int) == 2) = false := by simp; omega
  by_cases h3 : x = 3
  · subst h3
    rw [show ((3 : Nat) : Int) = 3 from rfl]
    have hc := makeFileS a n c nx rs q W3 hT (by omega)
    rw [hD] at hc
    have hg := good_make (nx := nx) hgd.out q 1
    obtain ⟨nx', ds', q', hm⟩ : ∃ x l y, makeD nx ds q 1 = (x, l, y) := ⟨_, _, _, rfl⟩
    rw [hm] at hc hg
    dsimp only at hc hg
    clear hm hT hD
    go_wp2_with fail
    (with_reducible refine hc.mono ?_)
    rintro e V hpost
    obtain ⟨a', n', c', rfl, hTQ, hbV⟩ := hpost.tq hg
    clear hc hg t0 t1
    have chV := ch3.keep hbV
    have u0 := chV.zT.cell 0
    have u1 := chV.zT.cell 1
    have f0 := chV.zT.frozen 0
    have f1 := chV.zT.frozen 1
    have zT1 := blk2 chV.zT (.slice a' n' c') (.int .i64 nx')
    have v0 := zT1.cell 0
    have v1 := zT1.cell 1
    have zR1 := (chV.zR.other (B' := w.heap.size) (by omega) 0 (.slice a' n' c')).other (B' := w.heap.size) (by omega) 1 (.int .i64 nx')
    have r0 := zR1.cell 0
    have r1 := zR1.cell 1
    have g0 := zR1.frozen 0
    have g1 := zR1.frozen 1
    simp at u0 u1 v0 v1 r0 r1
    have HZ : Hid _ := zR1
    have HF : Hid _ := ch3.fin (nx' := nx') hTQ hbV
    clear chV zT1 zR1 ch3 hTQ hbV hpost
    go_wp2
    have zf := blk2 HZ.out (.slice a' n' c') (.int .i64 nx')
    have dd0 := zf.cell 0
    have dd1 := zf.cell 1
    simp at dd0 dd1
    refine bodyPost_ret (v := .agg #[.slice a' n' c', .int .i64 nx']) (by simp [results, Try.f80, go_sem, dd0, dd1]) rfl ?_
    exact HF.out
  have n3 : ((x : Int) == 3) = false := by simp; omega
  by_cases h4 : x = 4
  · subst h4
    rw [show ((4 : Nat) : Int) = 4 from rfl]
    obtain ⟨vs, hvs⟩ : ∃ vs : List Int, vs = [0, 1, 20] := ⟨_, rfl⟩
    have chS := (ch3.al (.cells #[.int .i64 0, .int .i64 1, .int .i64 20] 3)).dr
    have hcl := ints_cells W3 [0, 1, 20] 3
    have hS1 := int_step gc sn scap sa zs W3.heap.size 3 [0, 1, 20] _ chS.src rfl (by omega) (by omega) (by have := ch3.src.cur.lt; omega) (fun j hj => hcl j hj)
    have s0 := chS.zT.cell 0
    have s1 := chS.zT.cell 1
    simp at s0 s1
    clear hcl hvs vs
    go_upto_region 16 with fail
    go_region_law (first
      | (go_simp; go_at_call 57; (with_reducible refine hS1.mono ?_); rintro e V1 ⟨k1, rfl, hk1, s4, g4⟩; have chA := chS.step s4 g4; obtain ⟨off, hoff⟩ : ∃ o, ([0, 1, 20] : List Int).getD k1 0 = o := ⟨_, rfl⟩; rw [hoff]; clear hoff; have p0 := chA.zT.cell 0; have p1 := chA.zT.cell 1; (simp at p0 p1); have hcB := some_step gc sn scap sa zs V1 chA.src; dsimp only)
      | (go_simp; go_at_call 111; (with_reducible refine hcB.mono ?_); rintro e V2 ⟨gd, md, cd, ys, rfl, hmd, hgd2, hby, ho2, s5, g5⟩; have chB := chA.step s5 g5; obtain ⟨rs2, hT2, hD2⟩ := chB.tq.tr; have m0 := chB.zT.cell 0; have m1 := chB.zT.cell 1; (simp at m0 m1); have hyl := ho2.len; have hc := writeS a n c nx rs2 p off (some ⟨gd, 0, none⟩) md cd ys V2 hT2 (by omega) hyl (by omega) ho2.rd hby; rw [hD2] at hc; have hg := good_write (nx := nx) hgd.out p off ys (by omega); obtain ⟨ds', q', hm⟩ : ∃ l y, writeD nx ds p off ys = (l, y) := ⟨_, _, rfl⟩; rw [hm] at hc hg; dsimp only at hc hg; clear hm; dsimp only)
      | (go_simp; go_at_call 110; (with_reducible refine hc.mono ?_); rintro e V hpost; obtain ⟨a', n', c', rfl, hTQ, hbV⟩ := hpost.tq hg; have chV := chB.keep hbV; have u0 := chV.zT.cell 0; have u1 := chV.zT.cell 1; have f0 := chV.zT.frozen 0; have f1 := chV.zT.frozen 1; have zT1 := blk2 chV.zT (.slice a' n' c') (.int .i64 nx); have v0 := zT1.cell 0; have v1 := zT1.cell 1; have zR1 := (chV.zR.other (B' := w.heap.size) (by omega) 0 (.slice a' n' c')).other (B' := w.heap.size) (by omega) 1 (.int .i64 nx); have r0 := zR1.cell 0; have r1 := zR1.cell 1; have g0 := zR1.frozen 0; have g1 := zR1.frozen 1; (simp at u0 u1 v0 v1 r0 r1); have HZ : Hid _ := zR1; have HF : Hid _ := chB.fin (nx' := nx) hTQ hbV; clear chV zT1 zR1; dsimp only)
      | fail)
    all_goals clear hTQ hbV hpost
    all_goals
      go_wp2
      have zf := blk2 HZ.out (.slice a' n' c') (.int .i64 nx)
      have dd0 := zf.cell 0
      have dd1 := zf.cell 1
      simp at dd0 dd1
      refine bodyPost_ret (v := .agg #[.slice a' n' c', .int .i64 nx]) (by simp [results, Try.f80, go_sem, dd0, dd1]) rfl ?_
      exact HF.out
  have n4 : ((x : Int) == 4) = false := by simp; omega
  by_cases h5 : x = 5
  · subst h5
    rw [show ((5 : Nat) : Int) = 5 from rfl]
    obtain ⟨vs, hvs⟩ : ∃ vs : List Int, vs = [0, 1, 20] := ⟨_, rfl⟩
    have chS := (ch3.al (.cells #[.int .i64 0, .int .i64 1, .int .i64 20] 3)).dr
    have hcl := ints_cells W3 [0, 1, 20] 3
    have hS1 := int_step gc sn scap sa zs W3.heap.size 3 [0, 1, 20] _ chS.src rfl (by omega) (by omega) (by have := ch3.src.cur.lt; omega) (fun j hj => hcl j hj)
    have s0 := chS.zT.cell 0
    have s1 := chS.zT.cell 1
    simp at s0 s1
    clear hcl hvs vs
    go_upto_region 16 with fail
    go_region_law (first
      | (go_simp; go_at_call 57; (with_reducible refine hS1.mono ?_); rintro e V1 ⟨k1, rfl, hk1, s4, g4⟩; have chA := chS.step s4 g4; obtain ⟨off, hoff⟩ : ∃ o, ([0, 1, 20] : List Int).getD k1 0 = o := ⟨_, rfl⟩; rw [hoff]; clear hoff; have p0 := chA.zT.cell 0; have p1 := chA.zT.cell 1; (simp at p0 p1); have hcB := some_step gc sn scap sa zs V1 chA.src; dsimp only)
      | (go_simp; go_at_call 111; (with_reducible refine hcB.mono ?_); rintro e V2 ⟨gd, md, cd, ys, rfl, hmd, hgd2, hby, ho2, s5, g5⟩; have chB := chA.step s5 g5; obtain ⟨rs2, hT2, hD2⟩ := chB.tq.tr; have m0 := chB.zT.cell 0; have m1 := chB.zT.cell 1; (simp at m0 m1); have hyl := ho2.len; have hc := writeS a n c nx rs2 p off (some ⟨gd, 0, none⟩) md cd ys V2 hT2 (by omega) hyl (by omega) ho2.rd hby; rw [hD2] at hc; have hg := good_write (nx := nx) hgd.out p off ys (by omega); obtain ⟨ds', q', hm⟩ : ∃ l y, writeD nx ds p off ys = (l, y) := ⟨_, _, rfl⟩; rw [hm] at hc hg; dsimp only at hc hg; clear hm; dsimp only)
      | (go_simp; go_at_call 110; (with_reducible refine hc.mono ?_); rintro e V hpost; obtain ⟨a', n', c', rfl, hTQ, hbV⟩ := hpost.tq hg; have chV := chB.keep hbV; have u0 := chV.zT.cell 0; have u1 := chV.zT.cell 1; have f0 := chV.zT.frozen 0; have f1 := chV.zT.frozen 1; have zT1 := blk2 chV.zT (.slice a' n' c') (.int .i64 nx); have v0 := zT1.cell 0; have v1 := zT1.cell 1; have zR1 := (chV.zR.other (B' := w.heap.size) (by omega) 0 (.slice a' n' c')).other (B' := w.heap.size) (by omega) 1 (.int .i64 nx); have r0 := zR1.cell 0; have r1 := zR1.cell 1; have g0 := zR1.frozen 0; have g1 := zR1.frozen 1; (simp at u0 u1 v0 v1 r0 r1); have HZ : Hid _ := zR1; have HF : Hid _ := chB.fin (nx' := nx) hTQ hbV; clear chV zT1 zR1; dsimp only)
      | fail)
    all_goals clear hTQ hbV hpost
    all_goals
      go_wp2
      have zf := blk2 HZ.out (.slice a' n' c') (.int .i64 nx)
      have dd0 := zf.cell 0
      have dd1 := zf.cell 1
      simp at dd0 dd1
      refine bodyPost_ret (v := .agg #[.slice a' n' c', .int .i64 nx]) (by simp [results, Try.f80, go_sem, dd0, dd1]) rfl ?_
      exact HF.out
  have n5 : ((x : Int) == 5) = false := by simp; omega
  by_cases h6 : x = 6
  · subst h6
    rw [show ((6 : Nat) : Int) = 6 from rfl]
    obtain ⟨vs, hvs⟩ : ∃ vs : List Int, vs = [0, 1, 20] := ⟨_, rfl⟩
    have chS := (ch3.al (.cells #[.int .i64 0, .int .i64 1, .int .i64 20] 3)).dr
    have hcl := ints_cells W3 [0, 1, 20] 3
    have hS1 := int_step gc sn scap sa zs W3.heap.size 3 [0, 1, 20] _ chS.src rfl (by omega) (by omega) (by have := ch3.src.cur.lt; omega) (fun j hj => hcl j hj)
    have s0 := chS.zT.cell 0
    have s1 := chS.zT.cell 1
    simp at s0 s1
    clear hcl hvs vs
    go_upto_region 16 with fail
    go_region_law (first
      | (go_simp; go_at_call 57; (with_reducible refine hS1.mono ?_); rintro e V1 ⟨k1, rfl, hk1, s4, g4⟩; have chA := chS.step s4 g4; obtain ⟨off, hoff⟩ : ∃ o, ([0, 1, 20] : List Int).getD k1 0 = o := ⟨_, rfl⟩; rw [hoff]; clear hoff; have p0 := chA.zT.cell 0; have p1 := chA.zT.cell 1; (simp at p0 p1); have hcB := some_step gc sn scap sa zs V1 chA.src; dsimp only)
      | (go_simp; go_at_call 111; (with_reducible refine hcB.mono ?_); rintro e V2 ⟨gd, md, cd, ys, rfl, hmd, hgd2, hby, ho2, s5, g5⟩; have chB := chA.step s5 g5; obtain ⟨rs2, hT2, hD2⟩ := chB.tq.tr; have m0 := chB.zT.cell 0; have m1 := chB.zT.cell 1; (simp at m0 m1); have hyl := ho2.len; have hc := writeS a n c nx rs2 p off (some ⟨gd, 0, none⟩) md cd ys V2 hT2 (by omega) hyl (by omega) ho2.rd hby; rw [hD2] at hc; have hg := good_write (nx := nx) hgd.out p off ys (by omega); obtain ⟨ds', q', hm⟩ : ∃ l y, writeD nx ds p off ys = (l, y) := ⟨_, _, rfl⟩; rw [hm] at hc hg; dsimp only at hc hg; clear hm; dsimp only)
      | (go_simp; go_at_call 110; (with_reducible refine hc.mono ?_); rintro e V hpost; obtain ⟨a', n', c', rfl, hTQ, hbV⟩ := hpost.tq hg; have chV := chB.keep hbV; have u0 := chV.zT.cell 0; have u1 := chV.zT.cell 1; have f0 := chV.zT.frozen 0; have f1 := chV.zT.frozen 1; have zT1 := blk2 chV.zT (.slice a' n' c') (.int .i64 nx); have v0 := zT1.cell 0; have v1 := zT1.cell 1; have zR1 := (chV.zR.other (B' := w.heap.size) (by omega) 0 (.slice a' n' c')).other (B' := w.heap.size) (by omega) 1 (.int .i64 nx); have r0 := zR1.cell 0; have r1 := zR1.cell 1; have g0 := zR1.frozen 0; have g1 := zR1.frozen 1; (simp at u0 u1 v0 v1 r0 r1); have HZ : Hid _ := zR1; have HF : Hid _ := chB.fin (nx' := nx) hTQ hbV; clear chV zT1 zR1; dsimp only)
      | fail)
    all_goals clear hTQ hbV hpost
    all_goals
      go_wp2
      have zf := blk2 HZ.out (.slice a' n' c') (.int .i64 nx)
      have dd0 := zf.cell 0
      have dd1 := zf.cell 1
      simp at dd0 dd1
      refine bodyPost_ret (v := .agg #[.slice a' n' c', .int .i64 nx]) (by simp [results, Try.f80, go_sem, dd0, dd1]) rfl ?_
      exact HF.out
  have n6 : ((x : Int) == 6) = false := by simp; omega
  by_cases h7 : x = 7
  · subst h7
    rw [show ((7 : Nat) : Int) = 7 from rfl]
    obtain ⟨vs, hvs⟩ : ∃ vs : List Int, vs = [0, 3, 50] := ⟨_, rfl⟩
    have chS := (ch3.al (.cells #[.int .i64 0, .int .i64 3, .int .i64 50] 3)).dr
    have hcl := ints_cells W3 [0, 3, 50] 3
    have hS1 := int_step gc sn scap sa zs W3.heap.size 3 [0, 3, 50] _ chS.src rfl (by omega) (by omega) (by have := ch3.src.cur.lt; omega) (fun j hj => hcl j hj)
    have s0 := chS.zT.cell 0
    have s1 := chS.zT.cell 1
    simp at s0 s1
    clear hcl hvs vs
    go_upto_region 18 with fail
    go_region_law (first
      | (go_simp; go_at_call 57; (with_reducible refine hS1.mono ?_); rintro e V1 ⟨k1, rfl, hk1, s4, g4⟩; have chB := chS.step s4 g4; obtain ⟨off, hoff⟩ : ∃ o, ([0, 3, 50] : List Int).getD k1 0 = o := ⟨_, rfl⟩; rw [hoff]; clear hoff; have p0 := chB.zT.cell 0; have p1 := chB.zT.cell 1; (simp at p0 p1); obtain ⟨rs2, hT2, hD2⟩ := chB.tq.tr; have hc := truncS a n c nx rs2 p off V1 hT2 (by omega); rw [hD2] at hc; have hg := good_trunc (nx := nx) hgd.out p off; obtain ⟨ds', q', hm⟩ : ∃ l y, truncD nx ds p off = (l, y) := ⟨_, _, rfl⟩; rw [hm] at hc hg; dsimp only at hc hg; clear hm; dsimp only)
      | (go_simp; go_at_call 112; (with_reducible refine hc.mono ?_); rintro e V hpost; obtain ⟨a', n', c', rfl, hTQ, hbV⟩ := hpost.tq hg; have chV := chB.keep hbV; have u0 := chV.zT.cell 0; have u1 := chV.zT.cell 1; have f0 := chV.zT.frozen 0; have f1 := chV.zT.frozen 1; have zT1 := blk2 chV.zT (.slice a' n' c') (.int .i64 nx); have v0 := zT1.cell 0; have v1 := zT1.cell 1; have zR1 := (chV.zR.other (B' := w.heap.size) (by omega) 0 (.slice a' n' c')).other (B' := w.heap.size) (by omega) 1 (.int .i64 nx); have r0 := zR1.cell 0; have r1 := zR1.cell 1; have g0 := zR1.frozen 0; have g1 := zR1.frozen 1; (simp at u0 u1 v0 v1 r0 r1); have HZ : Hid _ := zR1; have HF : Hid _ := chB.fin (nx' := nx) hTQ hbV; clear chV zT1 zR1; dsimp only)
      | fail)
    all_goals clear hTQ hbV hpost
    all_goals
      go_wp2
      have zf := blk2 HZ.out (.slice a' n' c') (.int .i64 nx)
      have dd0 := zf.cell 0
      have dd1 := zf.cell 1
      simp at dd0 dd1
      refine bodyPost_ret (v := .agg #[.slice a' n' c', .int .i64 nx]) (by simp [results, Try.f80, go_sem, dd0, dd1]) rfl ?_
      exact HF.out
  have n7 : ((x : Int) == 7) = false := by simp; omega
  by_cases h8 : x = 8
  · subst h8
    rw [show ((8 : Nat) : Int) = 8 from rfl]
    have hc := unlinkS a n c nx rs p W3 hT (by omega)
    rw [hD] at hc
    have hg := good_unlink (nx := nx) hgd.out p
    obtain ⟨ds', q', hm⟩ : ∃ l y, unlinkD nx ds p = (l, y) := ⟨_, _, rfl⟩
    rw [hm] at hc hg
    dsimp only at hc hg
    clear hm hT hD
    go_wp2_with fail
    (with_reducible refine hc.mono ?_)
    rintro e V hpost
    obtain ⟨a', n', c', rfl, hTQ, hbV⟩ := hpost.tq hg
    clear hc hg t0 t1
    have chV := ch3.keep hbV
    have u0 := chV.zT.cell 0
    have u1 := chV.zT.cell 1
    have f0 := chV.zT.frozen 0
    have f1 := chV.zT.frozen 1
    have zT1 := blk2 chV.zT (.slice a' n' c') (.int .i64 nx)
    have v0 := zT1.cell 0
    have v1 := zT1.cell 1
    have zR1 := (chV.zR.other (B' := w.heap.size) (by omega) 0 (.slice a' n' c')).other (B' := w.heap.size) (by omega) 1 (.int .i64 nx)
    have r0 := zR1.cell 0
    have r1 := zR1.cell 1
    have g0 := zR1.frozen 0
    have g1 := zR1.frozen 1
    simp at u0 u1 v0 v1 r0 r1
    have HZ : Hid _ := zR1
    have HF : Hid _ := ch3.fin (nx' := nx) hTQ hbV
    clear chV zT1 zR1 ch3 hTQ hbV hpost
    go_wp2
    have zf := blk2 HZ.out (.slice a' n' c') (.int .i64 nx)
    have dd0 := zf.cell 0
    have dd1 := zf.cell 1
    simp at dd0 dd1
    refine bodyPost_ret (v := .agg #[.slice a' n' c', .int .i64 nx]) (by simp [results, Try.f80, go_sem, dd0, dd1]) rfl ?_
    exact HF.out
  have n8 : ((x : Int) == 8) = false := by simp; omega
  by_cases h9 : x = 9
  · subst h9
    rw [show ((9 : Nat) : Int) = 9 from rfl]
    have hc := linkS a n c nx rs p q W3 hT (by omega) (by omega)
    rw [hD] at hc
    have hg := good_link (nx := nx) hgd.out p q
    obtain ⟨ds', q', hm⟩ : ∃ l y, linkD nx ds p q = (l, y) := ⟨_, _, rfl⟩
    rw [hm] at hc hg
    dsimp only at hc hg
    clear hm hT hD
    go_wp2_with fail
    (with_reducible refine hc.mono ?_)
    rintro e V hpost
    obtain ⟨a', n', c', rfl, hTQ, hbV⟩ := hpost.tq hg
    clear hc hg t0 t1
    have chV := ch3.keep hbV
    have u0 := chV.zT.cell 0
    have u1 := chV.zT.cell 1
    have f0 := chV.zT.frozen 0
    have f1 := chV.zT.frozen 1
    have zT1 := blk2 chV.zT (.slice a' n' c') (.int .i64 nx)
    have v0 := zT1.cell 0
    have v1 := zT1.cell 1
    have zR1 := (chV.zR.other (B' := w.heap.size) (by omega) 0 (.slice a' n' c')).other (B' := w.heap.size) (by omega) 1 (.int .i64 nx)
    have r0 := zR1.cell 0
    have r1 := zR1.cell 1
    have g0 := zR1.frozen 0
    have g1 := zR1.frozen 1
    simp at u0 u1 v0 v1 r0 r1
    have HZ : Hid _ := zR1
    have HF : Hid _ := ch3.fin (nx' := nx) hTQ hbV
    clear chV zT1 zR1 ch3 hTQ hbV hpost
    go_wp2
    have zf := blk2 HZ.out (.slice a' n' c') (.int .i64 nx)
    have dd0 := zf.cell 0
    have dd1 := zf.cell 1
    simp at dd0 dd1
    refine bodyPost_ret (v := .agg #[.slice a' n' c', .int .i64 nx]) (by simp [results, Try.f80, go_sem, dd0, dd1]) rfl ?_
    exact HF.out
  have n9 : ((x : Int) == 9) = false := by simp; omega
  by_cases h10 : x = 10
  · subst h10
    rw [show ((10 : Nat) : Int) = 10 from rfl]
    have hc := renameS a n c nx rs p q W3 hT (by omega) (by omega)
    rw [hD] at hc
    have hg := good_rename (nx := nx) hgd.out p q
    obtain ⟨ds', q', hm⟩ : ∃ l y, renameD nx ds p q = (l, y) := ⟨_, _, rfl⟩
    rw [hm] at hc hg
    dsimp only at hc hg
    clear hm hT hD
    go_wp2_with fail
    (with_reducible refine hc.mono ?_)
    rintro e V hpost
    obtain ⟨a', n', c', rfl, hTQ, hbV⟩ := hpost.tq hg
    clear hc hg t0 t1
    have chV := ch3.keep hbV
    have u0 := chV.zT.cell 0
    have u1 := chV.zT.cell 1
    have f0 := chV.zT.frozen 0
    have f1 := chV.zT.frozen 1
    have zT1 := blk2 chV.zT (.slice a' n' c') (.int .i64 nx)
    have v0 := zT1.cell 0
    have v1 := zT1.cell 1
    have zR1 := (chV.zR.other (B' := w.heap.size) (by omega) 0 (.slice a' n' c')).other (B' := w.heap.size) (by omega) 1 (.int .i64 nx)
    have r0 := zR1.cell 0
    have r1 := zR1.cell 1
    have g0 := zR1.frozen 0
    have g1 := zR1.frozen 1
    simp at u0 u1 v0 v1 r0 r1
    have HZ : Hid _ := zR1
    have HF : Hid _ := ch3.fin (nx' := nx) hTQ hbV
    clear chV zT1 zR1 ch3 hTQ hbV hpost
    go_wp2
    have zf := blk2 HZ.out (.slice a' n' c') (.int .i64 nx)
    have dd0 := zf.cell 0
    have dd1 := zf.cell 1
    simp at dd0 dd1
    refine bodyPost_ret (v := .agg #[.slice a' n' c', .int .i64 nx]) (by simp [results, Try.f80, go_sem, dd0, dd1]) rfl ?_
    exact HF.out
  have n10 : ((x : Int) == 10) = false := by simp; omega
  go_wp2_with fail
  refine (once_step gc sn scap sa zs 2 W3 ch3.src (by omega) (by omega)).mono ?_
  rintro e W4 ⟨Bb, rfl, hs4, hg4⟩
  have ch4 := ch3.step hs4 hg4
  clear ch3 hs4 hg4 t0 t1 hT hD rs
  obtain ⟨rs, hT, hD⟩ := ch4.tq.tr
  have t0 := ch4.zT.cell 0
  have t1 := ch4.zT.cell 1
  simp at t0 t1
  cases Bb with
  | true =>
    have hc := removeS a n c nx rs p W4 hT (by omega)
    rw [hD] at hc
    have hg := good_remove (nx := nx) hgd.out p
    obtain ⟨ds', q', hm⟩ : ∃ l y, removeD nx ds p = (l, y) := ⟨_, _, rfl⟩
    rw [hm] at hc hg
    dsimp only at hc hg
    clear hm hT hD
    go_wp2_with fail
    (with_reducible refine hc.mono ?_)
    rintro e V hpost
    obtain ⟨a', n', c', rfl, hTQ, hbV⟩ := hpost.tq hg
    clear hc hg t0 t1
    have chV := ch4.keep hbV
    have u0 := chV.zT.cell 0
    have u1 := chV.zT.cell 1
    have f0 := chV.zT.frozen 0
    have f1 := chV.zT.frozen 1
    have zT1 := blk2 chV.zT (.slice a' n' c') (.int .i64 nx)
    have v0 := zT1.cell 0
    have v1 := zT1.cell 1
    have zR1 := (chV.zR.other (B' := w.heap.size) (by omega) 0 (.slice a' n' c')).other (B' := w.heap.size) (by omega) 1 (.int .i64 nx)
    have r0 := zR1.cell 0
    have r1 := zR1.cell 1
    have g0 := zR1.frozen 0
    have g1 := zR1.frozen 1
    simp at u0 u1 v0 v1 r0 r1
    have HZ : Hid _ := zR1
    have HF : Hid _ := ch4.fin (nx' := nx) hTQ hbV
    clear chV zT1 zR1 ch4 hTQ hbV hpost
    go_wp2
    have zf := blk2 HZ.out (.slice a' n' c') (.int .i64 nx)
    have dd0 := zf.cell 0
    have dd1 := zf.cell 1
    simp at dd0 dd1
    refine bodyPost_ret (v := .agg #[.slice a' n' c', .int .i64 nx]) (by simp [results, Try.f80, go_sem, dd0, dd1]) rfl ?_
    exact HF.out
  | false =>
    have chS := (ch4.al (.cells #[.string ⟨#[120]⟩, .string ⟨#[]⟩, .string ⟨#[118, 97, 108, 117, 101]⟩] 9)).dr
    have hcl : Hid _ := strs_cells W4 [⟨#[120]⟩, ⟨#[]⟩, ⟨#[118, 97, 108, 117, 101]⟩]
    have hNA := name_step gc sn scap sa zs _ chS.src
    have hNB := name_step gc sn scap sa zs _ ch4.dr.src
    have s0 := chS.zT.cell 0
    have s1 := chS.zT.cell 1
    simp at s0 s1
    go_upto_region 6 with fail
    go_region_law (first
      | (go_simp; go_at_call 118; (with_reducible refine hNA.mono ?_); rintro e V1 ⟨nm, rfl, hnm, s4, g4⟩; have chN := chS.step s4 g4; have hcS := str_step gc sn scap sa zs W4.heap.size 3 [⟨#[120]⟩, ⟨#[]⟩, ⟨#[118, 97, 108, 117, 101]⟩] V1 chN.src rfl (by omega) (by omega) (by have := ch4.src.cur.lt; omega) (fun j hj => g4.cell (hcl.out j hj) (by have := ch4.src.cur.lt; simp; omega)) (by decide); have pp0 := chN.zT.cell 0; have pp1 := chN.zT.cell 1; (simp at pp0 pp1); dsimp only)
      | (go_simp; go_at_call 118; (with_reducible refine hNB.mono ?_); rintro e V1 ⟨nm, rfl, hnm, s4, g4⟩; have chA := ch4.dr.step s4 g4; have p0 := chA.zT.cell 0; have p1 := chA.zT.cell 1; (simp at p0 p1); have chN := chA.al (.cells #[.string ⟨#[120]⟩, .string ⟨#[]⟩, .string ⟨#[118, 97, 108, 117, 101]⟩] 9); have hcS := str_step gc sn scap sa zs V1.heap.size 3 [⟨#[120]⟩, ⟨#[]⟩, ⟨#[118, 97, 108, 117, 101]⟩] _ chN.src rfl (by omega) (by omega) (by have := chA.src.cur.lt; omega) (fun j hj => strs_cells V1 [⟨#[120]⟩, ⟨#[]⟩, ⟨#[118, 97, 108, 117, 101]⟩] j hj) (by decide); have pp0 := chN.zT.cell 0; have pp1 := chN.zT.cell 1; (simp at pp0 pp1); dsimp only)
      | (go_simp; go_at_call 59; (with_reducible refine hcS.mono ?_); rintro e V2 ⟨val, rfl, hvl, s5, g5⟩; have chB := chN.step s5 g5; obtain ⟨rs2, hT2, hD2⟩ := chB.tq.tr; have m0 := chB.zT.cell 0; have m1 := chB.zT.cell 1; (simp at m0 m1); have hc := attrS a n c nx rs2 p nm val V2 hT2 (by omega) (by omega) (by omega); rw [hD2] at hc; have hg := good_attr (nx := nx) hgd.out p nm val; obtain ⟨ds', q', hm⟩ : ∃ l y, attrD nx ds p nm val = (l, y) := ⟨_, _, rfl⟩; rw [hm] at hc hg; dsimp only at hc hg; clear hm; dsimp only)
      | (go_simp; go_at_call 117; (with_reducible refine hc.mono ?_); rintro e V hpost; obtain ⟨a', n', c', rfl, hTQ, hbV⟩ := hpost.tq hg; have chV := chB.keep hbV; have u0 := chV.zT.cell 0; have u1 := chV.zT.cell 1; have f0 := chV.zT.frozen 0; have f1 := chV.zT.frozen 1; have zT1 := blk2 chV.zT (.slice a' n' c') (.int .i64 nx); have v0 := zT1.cell 0; have v1 := zT1.cell 1; have zR1 := (chV.zR.other (B' := w.heap.size) (by omega) 0 (.slice a' n' c')).other (B' := w.heap.size) (by omega) 1 (.int .i64 nx); have r0 := zR1.cell 0; have r1 := zR1.cell 1; have g0 := zR1.frozen 0; have g1 := zR1.frozen 1; (simp at u0 u1 v0 v1 r0 r1); have HZ : Hid _ := zR1; have HF : Hid _ := chB.fin (nx' := nx) hTQ hbV; clear chV zT1 zR1; dsimp only)
      | fail)
    all_goals clear hTQ hbV hpost
    all_goals
      go_wp2
      have zf := blk2 HZ.out (.slice a' n' c') (.int .i64 nx)
      have dd0 := zf.cell 0
      have dd1 := zf.cell 1
      simp at dd0 dd1
      refine bodyPost_ret (v := .agg #[.slice a' n' c', .int .i64 nx]) (by simp [results, Try.f80, go_sem, dd0, dd1]) rfl ?_
      exact HF.out
end Go.Proofs.Ytgcmpimckpnemaa
