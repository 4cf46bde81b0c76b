/-
  Draws of an inode, bent or not: l3Any.
-/
import Derived.Test.YtgcmpimckpnemaaA20T
import Derived.Test.YtgcmpimckpnemaaA21T
import Derived.Deep.OwnRows
namespace Go.Proofs.Ytgcmpimckpnemaa
open Go.RowKit
/-- The state of a draw: the cursor gc; the answer's box, the inode's X; its lists. -/
structure DA (w W : World) (gc sn scap : Nat) (sa : Option Addr) (zs : List Int) (X : Nat) (xs : Array Value) (v1 : Value) (dz : List Int) (v2 : Value) (es : List (ByteArray × Int)) (v3 : Value) (ats : List (ByteArray × ByteArray)) : Prop where
  src : Src W gc sn scap sa zs
  gr : w.grownBy W (some gc)
  hgc : gc < w.heap.size
  res : Blk W w.heap.size 30 #[.int .i64 0, .int .i64 0, .int .i64 0, .slice none 0 0, .slice none 0 0, .slice none 0 0]
  x : Blk W X 30 xs
  hX : w.heap.size < X
  d : W.ownsRow w.heap.size 5 1 v1 dz.length (dz.map (Value.int .u8))
  e : W.ownsRow w.heap.size 67 2 v2 es.length (pv (eP es))
  t : W.ownsRow w.heap.size 70 2 v3 ats.length (pv (aP ats))
section
variable {w W W' : World} {gc sn scap : Nat} {sa : Option Addr} {zs : List Int} {X : Nat} {xs : Array Value} {v1 : Value} {dz : List Int} {v2 : Value} {es : List (ByteArray × Int)} {v3 : Value} {ats : List (ByteArray × ByteArray)}
theorem DA.kp (h : DA w W gc sn scap sa zs X xs v1 dz v2 es v3 ats) (k : KpT W W' [30, 5, 67, 70, 9]) (hs : Src W' gc sn scap sa zs) (hg : w.grownBy W' (some gc)) : DA w W' gc sn scap sa zs X xs v1 dz v2 es v3 ats :=
  ⟨hs, hg, h.hgc, h.res.kp k (by decide), h.x.kp k (by decide), h.hX, row_kp h.d k (by decide), row_kp h.e k (by decide), row_kp h.t k (by decide)⟩
theorem DA.cur (h : DA w W gc sn scap sa zs X xs v1 dz v2 es v3 ats) (hs : Src W' gc sn scap sa zs) (hg : W.grownBy W' (some gc)) : DA w W' gc sn scap sa zs X xs v1 dz v2 es v3 ats := by
  obtain ⟨i, hh, _, hb⟩ := h.src.cur
  exact h.kp (KpT.grown (t := 83) hg hb (by decide)) hs (h.gr.trans hg)
theorem DA.al (h : DA w W gc sn scap sa zs X xs v1 dz v2 es v3 ats) (o : Obj) : DA w (W.alloc o) gc sn scap sa zs X xs v1 dz v2 es v3 ats :=
  h.kp (KpT.below ((Below.refl _ W).alloc (Nat.le_refl _) o) _) (h.src.alloc o) (h.gr.trans (World.grownBy_alloc W o (some gc)))
theorem DA.dr (h : DA w W gc sn scap sa zs X xs v1 dz v2 es v3 ats) : DA w W.drew gc sn scap sa zs X xs v1 dz v2 es v3 ats :=
  h.kp (KpT.below (Below.refl _ W).drew _) h.src.drew ⟨h.gr.os, h.gr.tape, h.gr.output, h.gr.size, h.gr.block⟩
theorem DA.setX (h : DA w W gc sn scap sa zs X xs v1 dz v2 es v3 ats) (j : Nat) (v : Value) : DA w (W.setCell ⟨X, j, none⟩ v) gc sn scap sa zs X (xs.setIfInBounds j v) v1 dz v2 es v3 ats := by
  have k : KpT W (W.setCell ⟨X, j, none⟩ v) [5, 67, 70, 9] := KpT.grown (gr_setC W X j v) h.x (by decide)
  have hx := h.hX
  have hc := h.hgc
  exact ⟨h.src.other (gr_setC W X j v) (by omega), gr_own h.gr (fun g hg => by simp at hg; omega) (gr_setC W X j v), h.hgc, h.res.other (Nat.ne_of_lt h.hX) j v, h.x.set j v, h.hX, row_kp h.d k (by decide), row_kp h.e k (by decide), row_kp h.t k (by decide)⟩
theorem DA.appE (h : DA w W gc sn scap sa zs X xs v1 dz v2 es v3 ats) (o : Obj) (hg : (W.alloc o).grownBy W' v2.ownBlock) (v2' : Value) (es' : List (ByteArray × Int)) (ho : W'.ownsRow w.heap.size 67 2 v2' es'.length (pv (eP es'))) : DA w W' gc sn scap sa zs X xs v1 dz v2' es' v3 ats := by
  have ha := h.al o
  have hc := h.hgc
  have hv : ∀ g, v2.ownBlock = some g → w.heap.size ≤ g := fun g hk => (World.ownsRow.lt ha.e g hk).1
  have k : KpT (W.alloc o) W' [30, 5, 70, 9] := KpT.row hg ha.e (by decide)
  exact ⟨ha.src.own hg (fun g hk => by have := hv g hk; omega), gr_own ha.gr hv hg, h.hgc, ha.res.kp k (by decide), ha.x.kp k (by decide), h.hX, row_kp ha.d k (by decide), ho, row_kp ha.t k (by decide)⟩
theorem DA.appA (h : DA w W gc sn scap sa zs X xs v1 dz v2 es v3 ats) (o : Obj) (hg : (W.alloc o).grownBy W' v3.ownBlock) (v3' : Value) (ats' : List (ByteArray × ByteArray)) (ho : W'.ownsRow w.heap.size 70 2 v3' ats'.length (pv (aP ats'))) : DA w W' gc sn scap sa zs X xs v1 dz v2 es v3' ats' := by
  have ha := h.al o
  have hc := h.hgc
  have hv : ∀ g, v3.ownBlock = some g → w.heap.size ≤ g := fun g hk => (World.ownsRow.lt ha.t g hk).1
  have k : KpT (W.alloc o) W' [30, 5, 67, 9] := KpT.row hg ha.t (by decide)
  exact ⟨ha.src.own hg (fun g hk => by have := hv g hk; omega), gr_own ha.gr hv hg, h.hgc, ha.res.kp k (by decide), ha.x.kp k (by decide), h.hX, row_kp ha.d k (by decide), row_kp ha.e k (by decide), ho⟩
theorem DA.appD (h : DA w W gc sn scap sa zs X xs v1 dz v2 es v3 ats) (o : Obj) (hg : (W.alloc o).grownBy W' v1.ownBlock) (v1' : Value) (dz' : List Int) (ho : W'.ownsRow w.heap.size 5 1 v1' dz'.length (dz'.map (Value.int .u8))) : DA w W' gc sn scap sa zs X xs v1' dz' v2 es v3 ats := by
  have ha := h.al o
  have hc := h.hgc
  have hv : ∀ g, v1.ownBlock = some g → w.heap.size ≤ g := fun g hk => (World.ownsRow.lt ha.d g hk).1
  have k : KpT (W.alloc o) W' [30, 67, 70, 9] := KpT.row hg ha.d (by decide)
  exact ⟨ha.src.own hg (fun g hk => by have := hv g hk; omega), gr_own ha.gr hv hg, h.hgc, ha.res.kp k (by decide), ha.x.kp k (by decide), h.hX, ho, row_kp ha.e k (by decide), row_kp ha.t k (by decide)⟩
end
/-- Another list of bytes in the place of the data. -/
theorem DA.newD {w W : World} {gc sn scap : Nat} {sa : Option Addr} {zs : List Int} {X : Nat} {xs : Array Value} {v1 : Value} {dz : List Int} {v2 : Value} {es : List (ByteArray × Int)} {v3 : Value} {ats : List (ByteArray × ByteArray)} (h : DA w W gc sn scap sa zs X xs v1 dz v2 es v3 ats) (v1' : Value) (dz' : List Int) (ho : W.ownsRow w.heap.size 5 1 v1' dz'.length (dz'.map (Value.int .u8))) : DA w W gc sn scap sa zs X xs v1' dz' v2 es v3 ats :=
  ⟨h.src, h.gr, h.hgc, h.res, h.x, h.hX, ho, h.e, h.t⟩
/-- The answer stored. -/
theorem any_end {w W : World} {gc sn scap : Nat} {sa : Option Addr} {zs : List Int} {X : Nat} {xs : Array Value} {v1 : Value} {dz : List Int} {v2 : Value} {es : List (ByteArray × Int)} {v3 : Value} {ats : List (ByteArray × ByteArray)} {P : InoD → Prop} (h : DA w W gc sn scap sa zs X xs v1 dz v2 es v3 ats) (D : InoD) (hd : D.data = dz) (he : D.ents = es) (ht : D.attrs = ats) (hb : Byt dz) (hP : P D) (u0 u1 u2 u3 u4 u5 : Value) :
    DrawPost w gc sn scap sa zs P (.returned (.agg #[.int .i64 D.ino, .int .i64 D.kind, .int .i64 D.links, v1, v2, v3])) ((((((W.setCell ⟨w.heap.size, 0, none⟩ u0).setCell ⟨w.heap.size, 1, none⟩ u1).setCell ⟨w.heap.size, 2, none⟩ u2).setCell ⟨w.heap.size, 3, none⟩ u3).setCell ⟨w.heap.size, 4, none⟩ u4).setCell ⟨w.heap.size, 5, none⟩ u5) := by
  have g := gr_more (gr_more (gr_more (gr_more (gr_more (gr_setC W w.heap.size 0 u0) 1 u1) 2 u2) 3 u3) 4 u4) 5 u5
  have k := KpT.grown (ts := [5, 67, 70]) g h.res (by decide)
  subst hd he ht
  exact ⟨D, v1, v2, v3, rfl, ⟨row_kp h.d k (by decide), hb, row_kp h.e k (by decide), row_kp h.t k (by decide)⟩, hP, h.src.other g h.hgc, gr_own h.gr (fun m hm => by simp at hm; omega) g⟩
theorem row_down {B B' : Nat} {w : World} {e : TypeId} {s n : Nat} {v : Value} {xs : List Value} (h : w.ownsRow B e s v n xs) (hB : B' ≤ B) : w.ownsRow B' e s v n xs :=
  ⟨h.1, h.2.imp id (fun ⟨g, c, cur, h1, h2, rest⟩ => ⟨g, c, cur, h1, Nat.le_trans hB h2, rest⟩)⟩
/-- What l3Any draws. -/
structure DrA (D : InoD) : Prop where
  data : D.data.length ≤ 101
  nE : D.ents.length ≤ 11
  nA : D.attrs.length ≤ 5
  ents : ∀ q ∈ D.ents, q.1.size ≤ 16 ∧ q.1 ≠ ⟨#[122, 122]⟩
  attrs : ∀ q ∈ D.attrs, q.1.size ≤ 16 ∧ q.2.size ≤ 17
  num : 0 ≤ D.ino ∧ D.ino ≤ 1001
theorem nms_zz (j : Nat) (h : j < 4) : nms.getD j ⟨#[]⟩ ≠ ⟨#[122, 122]⟩ := by
  rcases (show j = 0 ∨ j = 1 ∨ j = 2 ∨ j = 3 by omega) with rfl | rfl | rfl | rfl <;> decide
/-- The measure of what l3Draw draws. -/
structure DrM (D : InoD) : Prop where
  data : D.data.length ≤ 100
  nE : D.ents.length ≤ 10
  nA : D.attrs.length ≤ 4
  ents : ∀ q ∈ D.ents, q.1.size ≤ 16 ∧ q.1 ≠ ⟨#[122, 122]⟩
  attrs : ∀ q ∈ D.attrs, q.1.size ≤ 16 ∧ q.2.size ≤ 17
  num : 0 ≤ D.ino ∧ D.ino ≤ 1001
theorem ino_num {D : InoD} (h : inoOk D = true) : 0 ≤ D.ino ∧ D.ino ≤ 1001 := by
  unfold inoOk at h
  simp only [Bool.and_eq_true, decide_eq_true_eq] at h
  have := h.1.1.1.1.1.1
  omega
theorem four_num (k : Nat) (h : k < 4) : 0 ≤ ([0, 1, 1000, 1001] : List Int).getD k 0 ∧ ([0, 1, 1000, 1001] : List Int).getD k 0 ≤ 1001 := by
  rcases (show k = 0 ∨ k = 1 ∨ k = 2 ∨ k = 3 by omega) with rfl | rfl | rfl | rfl <;> decide
theorem drm {D : InoD} (h : DrD D) : DrM D := by
  have f := inoOk_fit h.1
  refine ⟨f.data, f.nEnts, f.nAttrs, fun q hq => ?_, fun q hq => ?_, ino_num h.1⟩
  · obtain ⟨j, hj, e⟩ := h.2 q hq
    have := name14 (f.ents q hq).1
    exact ⟨by omega, by rw [e]; exact nms_zz j hj⟩
  · have := name14 (f.attrs q hq).1
    have := (f.attrs q hq).2
    omega
theorem four_zz (k : Nat) (h : k < 4) : (([⟨#[97]⟩, ⟨#[122]⟩, ⟨#[]⟩, ⟨#[90]⟩] : List ByteArray).getD k ⟨#[]⟩).size ≤ 16 ∧ ([⟨#[97]⟩, ⟨#[122]⟩, ⟨#[]⟩, ⟨#[90]⟩] : List ByteArray).getD k ⟨#[]⟩ ≠ ⟨#[122, 122]⟩ := by
  rcases (show k = 0 ∨ k = 1 ∨ k = 2 ∨ k = 3 by omega) with rfl | rfl | rfl | rfl <;> decide
theorem three_sz (k : Nat) (h : k < 3) : (([⟨#[97]⟩, ⟨#[122]⟩, ⟨#[]⟩] : List ByteArray).getD k ⟨#[]⟩).size ≤ 16 := by
  rcases (show k = 0 ∨ k = 1 ∨ k = 2 by omega) with rfl | rfl | rfl <;> decide
theorem mem_snoc {α : Type} {P : α → Prop} {l : List α} {q : α} (h : ∀ x ∈ l, P x) (hq : P q) : ∀ x ∈ l ++ [q], P x := fun x hx => by
  rcases List.mem_append.1 hx with hx | hx
  · exact h x hx
  · rw [List.mem_singleton] at hx
    rw [hx]
    exact hq
theorem mk_zeros (k5 : Nat) (w : World) (h : k5 < 3) : (Instr.makeSlice 22 (.int .i64 (15 + (k5 : Int))) (.int .i64 (15 + (k5 : Int)))).run Try.prog w = .ok (.slice (some ⟨w.heap.size, 0, none⟩) (15 + k5) (15 + k5)) (w.alloc (.cells (madeCells #[.int .u8 0] (15 + k5)) 5)) := by
  obtain ⟨ib, hib, zb0, zb1, zb2⟩ := info_parts Try.info5
  have := run_make_row (P := Try.prog) 22 5 ib _ Try.underlying22 hib zb0 zb1 rfl .i64 .i64 (15 + k5) (by rw [zb2]; omega) (by omega) w
  rw [show (15 + (k5 : Int)) = ((15 + k5 : Nat) : Int) by omega]
  exact this
theorem cv_zeros (k5 : Nat) (w : World) : (convert 22 9 (.slice (some ⟨w.heap.size, 0, none⟩) (15 + k5) (15 + k5))).run Try.prog (w.alloc (.cells (madeCells #[.int .u8 0] (15 + k5)) 5)) = .ok (.string (str (List.replicate (15 + k5) 0))) (w.alloc (.cells (madeCells #[.int .u8 0] (15 + k5)) 5)) := by
  refine conv_any _ _ _ _ _ (by simp) (.inr ⟨w.heap.size, 0, rfl, fun i hi => ?_⟩)
  rw [cell_of_row _ w.heap.size (0 + i) _ 5 (0, 0) (heap_alloc_new w _)]
  simp at hi
  simp [madeCells, hi, Nat.mod_one]
set_option maxHeartbeats 800000 in
theorem str_at (gc n cap : Nat) (a : Option Addr) (zs : List Int) (gl L : Nat) (vs : List ByteArray) (w : World) (h : Src w gc n cap a zs) (hL : vs.length = L) (hL1 : 1 ≤ L) (hL2 : L ≤ 256) (hne : gl ≠ gc)
    (hv : ∀ j, j < L → w.cell? ⟨gl, j, none⟩ = some (.string (vs.getD j ⟨#[]⟩))) :
    Calls Try.prog 59 #[.pointer (some ⟨gc, 0, none⟩), .slice (some ⟨gl, 0, none⟩) L L] w fun e w' => ∃ k : Nat, e = .returned (.string (vs.getD k ⟨#[]⟩)) ∧ k < L ∧ Src w' gc n cap a zs ∧ w.grownBy w' (some gc) := by
  have hL' : Hid (vs.length = L) := hL
  clear hL
  go_enter Try.func59, Try.ntmps59
  go_wp2_with fail
  refine (below_step gc n cap a zs L w h hL1 (by omega)).mono ?_
  rintro e w1 ⟨x, rfl, hx, hs1, hg1⟩
  have hcx := hg1.cell (hv x hx) (by simpa using hne)
  obtain ⟨z, hzz⟩ : ∃ z, vs.getD x ⟨#[]⟩ = z := ⟨_, rfl⟩
  have HZ : Hid _ := hzz
  rw [hzz] at hcx
  clear hzz
  have hx1 : (x : Int) < (L : Int) := by omega
  go_wp2
  go_ret
  exact ⟨x, congrArg (fun s => Ending.returned (.string s)) HZ.out.symm, hx, hs1, hg1⟩
set_option maxRecDepth 100000 in
set_option maxHeartbeats 8000000 in
theorem l3Any_any (gc sn scap : Nat) (sa : Option Addr) (zs : List Int) (w : World) (h : Src w gc sn scap sa zs) :
    Calls Try.prog 30 #[.pointer (some ⟨gc, 0, none⟩)] w fun e w' => DrawPost w gc sn scap sa zs DrA e w' := by
  obtain ⟨ie, hie, ze0, ze1, ze2⟩ := info_parts Try.infoEnt
  obtain ⟨ia, hia, za0, za1, za2⟩ := info_parts Try.infoAttr
  obtain ⟨ib, hib, zb0, zb1, zb2⟩ := info_parts Try.info5
  have hgc := h.cur.lt
  have z0 := Blk.new w 30 #[.int .i64 0, .int .i64 0, .int .i64 0, .slice none 0 0, .slice none 0 0, .slice none 0 0]
  have g0 := World.grownBy_alloc w (.cells #[.int .i64 0, .int .i64 0, .int .i64 0, .slice none 0 0, .slice none 0 0, .slice none 0 0] 30) (some gc)
  have hsz : (w.alloc (.cells #[.int .i64 0, .int .i64 0, .int .i64 0, .slice none 0 0, .slice none 0 0, .slice none 0 0] 30)).heap.size = w.heap.size + 1 := by simp
  have HSZ : Hid _ := hsz
  clear hsz
  go_enter Try.func30, Try.ntmps30
  go_wp2_with fail
  (with_reducible refine (l3Draw_any gc sn scap sa zs _ (h.alloc _)).mono ?_)
  rintro e w1 ⟨D, v1, v2, v3, rfl, lb, hD, s1, g1⟩
  have hM := drm hD
  have hw1 := g1.size
  rw [HSZ.out] at hw1
  have zr := z0.kept g1 (by omega)
  obtain ⟨a1, c1, rfl⟩ := val_shape lb.d
  obtain ⟨a2, c2, rfl⟩ := val_shape lb.e
  obtain ⟨a3, c3, rfl⟩ := val_shape lb.t
  have hbz := lb.byt
  have di0 : DA w (w1.alloc (.cells #[.int .i64 D.ino, .int .i64 D.kind, .int .i64 D.links, .slice a1 D.data.length c1, .slice a2 D.ents.length c2, .slice a3 D.attrs.length c3] 30)) gc sn scap sa zs w1.heap.size #[.int .i64 D.ino, .int .i64 D.kind, .int .i64 D.links, .slice a1 D.data.length c1, .slice a2 D.ents.length c2, .slice a3 D.attrs.length c3] (.slice a1 D.data.length c1) D.data (.slice a2 D.ents.length c2) D.ents (.slice a3 D.attrs.length c3) D.attrs :=
    ⟨s1.alloc _, (g0.trans g1).trans (World.grownBy_alloc w1 _ (some gc)), hgc, zr.alloc _, Blk.new w1 _ _, by omega, World.ownsRow.alloc (row_down lb.d (by rw [HSZ.out]; omega)) _, World.ownsRow.alloc (row_down lb.e (by rw [HSZ.out]; omega)) _, World.ownsRow.alloc (row_down lb.t (by rw [HSZ.out]; omega)) _⟩
  clear g1 s1 z0 g0 zr lb hw1 HSZ h hD
  go_upto_region 2 with fail
  obtain ⟨W1, hW1⟩ : ∃ W, w1.alloc (.cells #[.int .i64 D.ino, .int .i64 D.kind, .int .i64 D.links, .slice a1 D.data.length c1, .slice a2 D.ents.length c2, .slice a3 D.attrs.length c3] 30) = W := ⟨_, rfl⟩
  obtain ⟨X, hX⟩ : ∃ X, w1.heap.size = X := ⟨_, rfl⟩
  rw [hW1, hX] at di0 ⊢
  clear hW1 hX
  go_wp2_with fail
  refine (below_step gc sn scap sa zs 14 W1 di0.src (by omega) (by omega)).mono ?_
  rintro e u1 ⟨x, rfl, hx, s2, g2⟩
  have d1 := di0.cur s2 g2
  have hgu : gc < u1.heap.size := d1.src.cur.lt
  clear di0 s2 g2
  by_cases h0 : x = 0
  · subst h0
    rw [show ((0 : Nat) : Int) = 0 from rfl]
    have dA := d1.al (.cells #[.int .i64 0, .int .i64 1, .int .i64 1000, .int .i64 1001] 3)
    have hcI := int_step gc sn scap sa zs u1.heap.size 4 [0, 1, 1000, 1001] _ dA.src rfl (by omega) (by omega) (by omega) (fun j hj => ints_cells u1 [0, 1, 1000, 1001] 3 j hj)
    go_upto_region 4 with fail
    go_wp2_with fail
    (with_reducible refine hcI.mono ?_)
    rintro e u2 ⟨k5, rfl, hk5, s5, g5⟩
    have d5 := dA.cur s5 g5
    obtain ⟨iv5, hiv⟩ : ∃ i : Int, ([0, 1, 1000, 1001] : List Int).getD k5 0 = i := ⟨_, rfl⟩
    have HIV : Hid (0 ≤ iv5 ∧ iv5 ≤ 1001) := by show _ ∧ _; rw [← hiv]; exact four_num k5 hk5
    rw [hiv]
    have y5 := d5.x.cell 0
    have fz := d5.x.frozen 0
    simp at y5
    have d6 : DA w (u2.setCell ⟨X, 0, none⟩ (.int .i64 iv5)) gc sn scap sa zs X #[.int .i64 iv5, .int .i64 D.kind, .int .i64 D.links, (.slice a1 D.data.length c1), (.slice a2 D.ents.length c2), (.slice a3 D.attrs.length c3)] (.slice a1 D.data.length c1) D.data (.slice a2 D.ents.length c2) D.ents (.slice a3 D.attrs.length c3) D.attrs := d5.setX 0 _
    clear dA d5 hcI s5 g5 d1 hiv
    go_upto_region 15 with fail
    obtain ⟨W6, hW6⟩ : ∃ W, u2.setCell ⟨X, 0, none⟩ (.int .i64 iv5) = W := ⟨_, rfl⟩
    rw [hW6] at d6 ⊢
    clear hW6 y5 fz
    obtain ⟨q0, q1, q2, q3, q4, q5⟩ := d6.x.six
    obtain ⟨r0, r1, r2, r3, r4, r5⟩ := d6.res.six
    have f0 := d6.res.frozen 0
    have f1 := d6.res.frozen 1
    have f2 := d6.res.frozen 2
    have f3 := d6.res.frozen 3
    have f4 := d6.res.frozen 4
    have f5 := d6.res.frozen 5
    have HK : Hid _ := d6
    clear d6
    go_wp2
    have zf := (((((HK.out.res.set 0 (.int .i64 iv5)).set 1 (.int .i64 D.kind)).set 2 (.int .i64 D.links)).set 3 (.slice a1 D.data.length c1)).set 4 (.slice a2 D.ents.length c2)).set 5 (.slice a3 D.attrs.length c3)
    have dd0 := zf.cell 0
    have dd1 := zf.cell 1
    have dd2 := zf.cell 2
    have dd3 := zf.cell 3
    have dd4 := zf.cell 4
    have dd5 := zf.cell 5
    simp at dd0 dd1 dd2 dd3 dd4 dd5
    refine bodyPost_ret (v := .agg #[.int .i64 iv5, .int .i64 D.kind, .int .i64 D.links, (.slice a1 D.data.length c1), (.slice a2 D.ents.length c2), (.slice a3 D.attrs.length c3)]) (by simp [results, Try.f30, go_sem, dd0, dd1, dd2, dd3, dd4, dd5]) rfl ?_
    exact any_end HK.out ⟨iv5, D.kind, D.links, D.data, D.ents, D.attrs⟩ rfl rfl rfl hbz ⟨by have := hM.data; dsimp only; omega, by have := hM.nE; dsimp only; omega, by have := hM.nA; dsimp only; omega, hM.ents, hM.attrs, HIV.out⟩ _ _ _ _ _ _
  have n0 : ((x : Int) == 0) = false := by simp; omega
  by_cases h1 : x = 1
  · subst h1
    rw [show ((1 : Nat) : Int) = 1 from rfl]
    go_upto_region 6 with fail
    go_wp2_with fail
    refine (below_step gc sn scap sa zs 4 u1 d1.src (by omega) (by omega)).mono ?_
    rintro e u2 ⟨k5, rfl, hk5, s5, g5⟩
    have d5 := d1.cur s5 g5
    have y5 := d5.x.cell 1
    have fz := d5.x.frozen 1
    simp at y5
    have d6 : DA w (u2.setCell ⟨X, 1, none⟩ (.int .i64 (k5 : Int))) gc sn scap sa zs X #[.int .i64 D.ino, .int .i64 (k5 : Int), .int .i64 D.links, (.slice a1 D.data.length c1), (.slice a2 D.ents.length c2), (.slice a3 D.attrs.length c3)] (.slice a1 D.data.length c1) D.data (.slice a2 D.ents.length c2) D.ents (.slice a3 D.attrs.length c3) D.attrs := d5.setX 1 _
    clear d5 s5 g5 d1
    go_upto_region 15 with fail
    obtain ⟨W6, hW6⟩ : ∃ W, u2.setCell ⟨X, 1, none⟩ (.int .i64 (k5 : Int)) = W := ⟨_, rfl⟩
    rw [hW6] at d6 ⊢
    clear hW6 y5 fz
    obtain ⟨q0, q1, q2, q3, q4, q5⟩ := d6.x.six
    obtain ⟨r0, r1, r2, r3, r4, r5⟩ := d6.res.six
    have f0 := d6.res.frozen 0
    have f1 := d6.res.frozen 1
    have f2 := d6.res.frozen 2
    have f3 := d6.res.frozen 3
    have f4 := d6.res.frozen 4
    have f5 := d6.res.frozen 5
    have HK : Hid _ := d6
    clear d6
    go_wp2
    have zf := (((((HK.out.res.set 0 (.int .i64 D.ino)).set 1 (.int .i64 (k5 : Int))).set 2 (.int .i64 D.links)).set 3 (.slice a1 D.data.length c1)).set 4 (.slice a2 D.ents.length c2)).set 5 (.slice a3 D.attrs.length c3)
    have dd0 := zf.cell 0
    have dd1 := zf.cell 1
    have dd2 := zf.cell 2
    have dd3 := zf.cell 3
    have dd4 := zf.cell 4
    have dd5 := zf.cell 5
    simp at dd0 dd1 dd2 dd3 dd4 dd5
    refine bodyPost_ret (v := .agg #[.int .i64 D.ino, .int .i64 (k5 : Int), .int .i64 D.links, (.slice a1 D.data.length c1), (.slice a2 D.ents.length c2), (.slice a3 D.attrs.length c3)]) (by simp [results, Try.f30, go_sem, dd0, dd1, dd2, dd3, dd4, dd5]) rfl ?_
    exact any_end HK.out ⟨D.ino, (k5 : Int), D.links, D.data, D.ents, D.attrs⟩ rfl rfl rfl hbz ⟨by have := hM.data; dsimp only; omega, by have := hM.nE; dsimp only; omega, by have := hM.nA; dsimp only; omega, hM.ents, hM.attrs, hM.num⟩ _ _ _ _ _ _
  have n1 : ((x : Int) == 1) = false := by simp; omega
  by_cases h2 : x = 2
  · subst h2
    rw [show ((2 : Nat) : Int) = 2 from rfl]
    have dA := d1.al (.cells #[.int .i64 (-1), .int .i64 0, .int .i64 2, .int .i64 1001] 3)
    have hcI := int_step gc sn scap sa zs u1.heap.size 4 [-1, 0, 2, 1001] _ dA.src rfl (by omega) (by omega) (by omega) (fun j hj => ints_cells u1 [-1, 0, 2, 1001] 3 j hj)
    go_upto_region 8 with fail
    go_wp2_with fail
    (with_reducible refine hcI.mono ?_)
    rintro e u2 ⟨k5, rfl, hk5, s5, g5⟩
    have d5 := dA.cur s5 g5
    obtain ⟨iv5, hiv⟩ : ∃ i : Int, ([-1, 0, 2, 1001] : List Int).getD k5 0 = i := ⟨_, rfl⟩
    rw [hiv]
    have y5 := d5.x.cell 2
    have fz := d5.x.frozen 2
    simp at y5
    have d6 : DA w (u2.setCell ⟨X, 2, none⟩ (.int .i64 iv5)) gc sn scap sa zs X #[.int .i64 D.ino, .int .i64 D.kind, .int .i64 iv5, (.slice a1 D.data.length c1), (.slice a2 D.ents.length c2), (.slice a3 D.attrs.length c3)] (.slice a1 D.data.length c1) D.data (.slice a2 D.ents.length c2) D.ents (.slice a3 D.attrs.length c3) D.attrs := d5.setX 2 _
    clear dA d5 hcI s5 g5 d1 hiv
    go_upto_region 15 with fail
    obtain ⟨W6, hW6⟩ : ∃ W, u2.setCell ⟨X, 2, none⟩ (.int .i64 iv5) = W := ⟨_, rfl⟩
    rw [hW6] at d6 ⊢
    clear hW6 y5 fz
    obtain ⟨q0, q1, q2, q3, q4, q5⟩ := d6.x.six
    obtain ⟨r0, r1, r2, r3, r4, r5⟩ := d6.res.six
    have f0 := d6.res.frozen 0
    have f1 := d6.res.frozen 1
    have f2 := d6.res.frozen 2
    have f3 := d6.res.frozen 3
    have f4 := d6.res.frozen 4
    have f5 := d6.res.frozen 5
    have HK : Hid _ := d6
    clear d6
    go_wp2
    have zf := (((((HK.out.res.set 0 (.int .i64 D.ino)).set 1 (.int .i64 D.kind)).set 2 (.int .i64 iv5)).set 3 (.slice a1 D.data.length c1)).set 4 (.slice a2 D.ents.length c2)).set 5 (.slice a3 D.attrs.length c3)
    have dd0 := zf.cell 0
    have dd1 := zf.cell 1
    have dd2 := zf.cell 2
    have dd3 := zf.cell 3
    have dd4 := zf.cell 4
    have dd5 := zf.cell 5
    simp at dd0 dd1 dd2 dd3 dd4 dd5
    refine bodyPost_ret (v := .agg #[.int .i64 D.ino, .int .i64 D.kind, .int .i64 iv5, (.slice a1 D.data.length c1), (.slice a2 D.ents.length c2), (.slice a3 D.attrs.length c3)]) (by simp [results, Try.f30, go_sem, dd0, dd1, dd2, dd3, dd4, dd5]) rfl ?_
    exact any_end HK.out ⟨D.ino, D.kind, iv5, D.data, D.ents, D.attrs⟩ rfl rfl rfl hbz ⟨by have := hM.data; dsimp only; omega, by have := hM.nE; dsimp only; omega, by have := hM.nA; dsimp only; omega, hM.ents, hM.attrs, hM.num⟩ _ _ _ _ _ _
  have n2 : ((x : Int) == 2) = false := by simp; omega
  by_cases h3 : x = 3
  · subst h3
    rw [show ((3 : Nat) : Int) = 3 from rfl]
    have hrow := World.ownsRow.alloc d1.d (.cells #[.int .u8 1] 5)
    have hbw : w.heap.size ≤ (u1.alloc (.cells #[.int .u8 1] 5)).heap.size := by simp; have := d1.gr.size; omega
    have x0 := d1.x.cell 3
    simp at x0
    have hdl := hM.data
    go_upto_region 10 with fail
    go_upto_region 15 with (first | (at_builtin; refine wpList_append_lies (u1.alloc (.cells #[.int .u8 1] 5)) rfl (.tmp 28) (.tmp 29) 22 rfl w.heap.size 5 ib _ 1 1 Try.underlying22 hib zb0 zb1 zb2 rfl (by omega) (.slice a1 D.data.length c1) D.data.length (D.data.map (Value.int .u8)) rfl hrow ⟨u1.heap.size, 0, none⟩ 1 1 [.int .u8 1] rfl rfl (World.news_of_block (heap_alloc_new u1 _)) (by intro u hu; simp at hu; subst hu; rfl) (by omega) (by unfold maxLen; omega) (by omega) hbw (u1.heap.size + 1) (by simp) ?_; intro g5 c5 u5 ho5 hg5 hat5 hlt5; have d5 := d1.appD (.cells #[.int .u8 1] 5) hg5 (.slice (some ⟨g5, 0, none⟩) (D.data.length + 1) c5) (D.data ++ [1]) (by rw [List.length_append, List.map_append]; exact ho5); have y5 := d5.x.cell 3; have fz := d5.x.frozen 3; (simp at y5)) | fail)
    have d6 : DA w (u5.setCell ⟨X, 3, none⟩ (.slice (some ⟨g5, 0, none⟩) (D.data.length + 1) c5)) gc sn scap sa zs X #[.int .i64 D.ino, .int .i64 D.kind, .int .i64 D.links, (.slice (some ⟨g5, 0, none⟩) (D.data.length + 1) c5), (.slice a2 D.ents.length c2), (.slice a3 D.attrs.length c3)] (.slice (some ⟨g5, 0, none⟩) (D.data.length + 1) c5) (D.data ++ [1]) (.slice a2 D.ents.length c2) D.ents (.slice a3 D.attrs.length c3) D.attrs := d5.setX 3 _
    clear d5 d1 hrow hbw x0 y5 fz
    obtain ⟨W6, hW6⟩ : ∃ W, u5.setCell ⟨X, 3, none⟩ (.slice (some ⟨g5, 0, none⟩) (D.data.length + 1) c5) = W := ⟨_, rfl⟩
    rw [hW6] at d6 ⊢
    clear hW6
    obtain ⟨q0, q1, q2, q3, q4, q5⟩ := d6.x.six
    obtain ⟨r0, r1, r2, r3, r4, r5⟩ := d6.res.six
    have f0 := d6.res.frozen 0
    have f1 := d6.res.frozen 1
    have f2 := d6.res.frozen 2
    have f3 := d6.res.frozen 3
    have f4 := d6.res.frozen 4
    have f5 := d6.res.frozen 5
    have HK : Hid _ := d6
    clear d6
    go_wp2
    have zf := (((((HK.out.res.set 0 (.int .i64 D.ino)).set 1 (.int .i64 D.kind)).set 2 (.int .i64 D.links)).set 3 (.slice (some ⟨g5, 0, none⟩) (D.data.length + 1) c5)).set 4 (.slice a2 D.ents.length c2)).set 5 (.slice a3 D.attrs.length c3)
    have dd0 := zf.cell 0
    have dd1 := zf.cell 1
    have dd2 := zf.cell 2
    have dd3 := zf.cell 3
    have dd4 := zf.cell 4
    have dd5 := zf.cell 5
    simp at dd0 dd1 dd2 dd3 dd4 dd5
    refine bodyPost_ret (v := .agg #[.int .i64 D.ino, .int .i64 D.kind, .int .i64 D.links, (.slice (some ⟨g5, 0, none⟩) (D.data.length + 1) c5), (.slice a2 D.ents.length c2), (.slice a3 D.attrs.length c3)]) (by simp [results, Try.f30, go_sem, dd0, dd1, dd2, dd3, dd4, dd5]) rfl ?_
    exact any_end HK.out ⟨D.ino, D.kind, D.links, D.data ++ [1], D.ents, D.attrs⟩ rfl rfl rfl (hbz.snoc (x := 1) (by omega)) ⟨by simp; omega, by have := hM.nE; dsimp only; omega, by have := hM.nA; dsimp only; omega, hM.ents, hM.attrs, hM.num⟩ _ _ _ _ _ _
  have n3 : ((x : Int) == 3) = false := by simp; omega
  by_cases h4 : x = 4
  · subst h4
    rw [show ((4 : Nat) : Int) = 4 from rfl]
    have hel := hM.nE
    have dS := (d1.al (.cells #[.string ⟨#[97]⟩, .string ⟨#[122]⟩, .string ⟨#[]⟩, .string ⟨#[90]⟩] 9)).dr
    have dI := (d1.al (.cells #[.int .i64 1, .int .i64 2, .int .i64 1000, .int .i64 1001] 3)).dr
    have dSI := ((d1.al (.cells #[.string ⟨#[97]⟩, .string ⟨#[122]⟩, .string ⟨#[]⟩, .string ⟨#[90]⟩] 9)).al (.cells #[.int .i64 1, .int .i64 2, .int .i64 1000, .int .i64 1001] 3)).dr
    have dIS := ((d1.al (.cells #[.int .i64 1, .int .i64 2, .int .i64 1000, .int .i64 1001] 3)).al (.cells #[.string ⟨#[97]⟩, .string ⟨#[122]⟩, .string ⟨#[]⟩, .string ⟨#[90]⟩] 9)).dr
    have x0 := d1.x.cell 4
    have xS := dS.x.cell 4
    have xI := dI.x.cell 4
    have xSI := dSI.x.cell 4
    have xIS := dIS.x.cell 4
    simp at x0 xS xI xSI xIS
    have cS0 : ∀ j, j < 4 → (u1.alloc (.cells #[.string ⟨#[97]⟩, .string ⟨#[122]⟩, .string ⟨#[]⟩, .string ⟨#[90]⟩] 9)).cell? ⟨u1.heap.size, j, none⟩ = some (.string (([⟨#[97]⟩, ⟨#[122]⟩, ⟨#[]⟩, ⟨#[90]⟩] : List ByteArray).getD j ⟨#[]⟩)) := fun j hj => strs_cells u1 [⟨#[97]⟩, ⟨#[122]⟩, ⟨#[]⟩, ⟨#[90]⟩] j hj
    have cS1 : ∀ j, j < 4 → ((u1.alloc (.cells #[.int .i64 1, .int .i64 2, .int .i64 1000, .int .i64 1001] 3)).alloc (.cells #[.string ⟨#[97]⟩, .string ⟨#[122]⟩, .string ⟨#[]⟩, .string ⟨#[90]⟩] 9)).cell? ⟨u1.heap.size + 1, j, none⟩ = some (.string (([⟨#[97]⟩, ⟨#[122]⟩, ⟨#[]⟩, ⟨#[90]⟩] : List ByteArray).getD j ⟨#[]⟩)) := fun j hj => by have := strs_cells (u1.alloc (.cells #[.int .i64 1, .int .i64 2, .int .i64 1000, .int .i64 1001] 3)) [⟨#[97]⟩, ⟨#[122]⟩, ⟨#[]⟩, ⟨#[90]⟩] j hj; rw [World.size_alloc] at this; exact this
    have cS2 : ∀ j, j < 4 → ((u1.alloc (.cells #[.string ⟨#[97]⟩, .string ⟨#[122]⟩, .string ⟨#[]⟩, .string ⟨#[90]⟩] 9)).alloc (.cells #[.int .i64 1, .int .i64 2, .int .i64 1000, .int .i64 1001] 3)).cell? ⟨u1.heap.size, j, none⟩ = some (.string (([⟨#[97]⟩, ⟨#[122]⟩, ⟨#[]⟩, ⟨#[90]⟩] : List ByteArray).getD j ⟨#[]⟩)) := fun j hj => Lib.cell?_alloc_some _ (cS0 j hj)
    have cI0 : ∀ j, j < 4 → (u1.alloc (.cells #[.int .i64 1, .int .i64 2, .int .i64 1000, .int .i64 1001] 3)).cell? ⟨u1.heap.size, j, none⟩ = some (.int .i64 (([1, 2, 1000, 1001] : List Int).getD j 0)) := fun j hj => ints_cells u1 [1, 2, 1000, 1001] 3 j hj
    have cI1 : ∀ j, j < 4 → ((u1.alloc (.cells #[.string ⟨#[97]⟩, .string ⟨#[122]⟩, .string ⟨#[]⟩, .string ⟨#[90]⟩] 9)).alloc (.cells #[.int .i64 1, .int .i64 2, .int .i64 1000, .int .i64 1001] 3)).cell? ⟨u1.heap.size + 1, j, none⟩ = some (.int .i64 (([1, 2, 1000, 1001] : List Int).getD j 0)) := fun j hj => by have := ints_cells (u1.alloc (.cells #[.string ⟨#[97]⟩, .string ⟨#[122]⟩, .string ⟨#[]⟩, .string ⟨#[90]⟩] 9)) [1, 2, 1000, 1001] 3 j hj; rw [World.size_alloc] at this; exact this
    have cI2 : ∀ j, j < 4 → ((u1.alloc (.cells #[.int .i64 1, .int .i64 2, .int .i64 1000, .int .i64 1001] 3)).alloc (.cells #[.string ⟨#[97]⟩, .string ⟨#[122]⟩, .string ⟨#[]⟩, .string ⟨#[90]⟩] 9)).cell? ⟨u1.heap.size, j, none⟩ = some (.int .i64 (([1, 2, 1000, 1001] : List Int).getD j 0)) := fun j hj => Lib.cell?_alloc_some _ (cI0 j hj)
    have hS1 := str_at gc sn scap sa zs u1.heap.size 4 [⟨#[97]⟩, ⟨#[122]⟩, ⟨#[]⟩, ⟨#[90]⟩] _ dS.src rfl (by omega) (by omega) (by omega) cS0
    have hS2 := str_at gc sn scap sa zs u1.heap.size 4 [⟨#[97]⟩, ⟨#[122]⟩, ⟨#[]⟩, ⟨#[90]⟩] _ dSI.src rfl (by omega) (by omega) (by omega) cS2
    have hS3 := str_at gc sn scap sa zs (u1.heap.size + 1) 4 [⟨#[97]⟩, ⟨#[122]⟩, ⟨#[]⟩, ⟨#[90]⟩] _ dIS.src rfl (by omega) (by omega) (by omega) cS1
    have HC : Hid _ := And.intro cI1 cI2
    clear cS0 cS1 cS2 cI0 cI1 cI2
    go_upto_region 12 with fail
    go_region_law (first
      | (go_simp; go_at_call 59; (first | ((with_reducible refine hS1.mono ?_); rintro e u2 ⟨k4, rfl, hk4, s4, g4⟩; have d2 := dS.cur s4 g4; have dK := d2.al (.cells #[.int .i64 1, .int .i64 2, .int .i64 1000, .int .i64 1001] 3); have hcI := int_step gc sn scap sa zs u2.heap.size 4 [1, 2, 1000, 1001] _ dK.src rfl (by omega) (by omega) (by have := d2.src.cur.lt; omega) (fun j hj => ints_cells u2 [1, 2, 1000, 1001] 3 j hj)) | ((with_reducible refine hS2.mono ?_); rintro e u2 ⟨k4, rfl, hk4, s4, g4⟩; have d2 := dSI.cur s4 g4; have dK := d2; have hcI := int_step gc sn scap sa zs (u1.heap.size + 1) 4 [1, 2, 1000, 1001] _ dK.src rfl (by omega) (by omega) (by omega) (fun j hj => g4.cell (HC.out.1 j hj) (by simp; omega))) | ((with_reducible refine hS3.mono ?_); rintro e u2 ⟨k4, rfl, hk4, s4, g4⟩; have d2 := dIS.cur s4 g4; have dK := d2; have hcI := int_step gc sn scap sa zs u1.heap.size 4 [1, 2, 1000, 1001] _ dK.src rfl (by omega) (by omega) (by omega) (fun j hj => g4.cell (HC.out.2 j hj) (by simp; omega))) | fail); obtain ⟨zq, hzq⟩ : ∃ z, ([⟨#[97]⟩, ⟨#[122]⟩, ⟨#[]⟩, ⟨#[90]⟩] : List ByteArray).getD k4 ⟨#[]⟩ = z := ⟨_, rfl⟩; rw [hzq]; have HZQ : Hid _ := hzq; clear hzq; have x2 := d2.x.cell 4; have x3 := (d2.x.alloc (.cells #[.int .i64 1, .int .i64 2, .int .i64 1000, .int .i64 1001] 3)).cell 4; (simp at x2 x3); dsimp only)
      | (go_simp; go_at_call 57; (with_reducible refine hcI.mono ?_); rintro e u3 ⟨k5, rfl, hk5, s5, g5'⟩; have d3 := dK.cur s5 g5'; obtain ⟨iq, hiq⟩ : ∃ z, ([1, 2, 1000, 1001] : List Int).getD k5 0 = z := ⟨_, rfl⟩; rw [hiq]; clear hiq; have x5 := d3.x.cell 4; have x6 := (d3.x.alloc (.cells #[.string zq, .int .i64 iq] 67)).cell 4; (simp at x5 x6); have hrow := World.ownsRow.alloc d3.e (.cells #[.string zq, .int .i64 iq] 67); have hbw : w.heap.size ≤ (u3.alloc (.cells #[.string zq, .int .i64 iq] 67)).heap.size := (by simp; have := d3.gr.size; omega); dsimp only)
      | (refine step_append_lies (u3.alloc (.cells #[.string zq, .int .i64 iq] 67)) rfl (.tmp 35) (.tmp 43) 27 rfl w.heap.size 67 ie _ 2 24 Try.underlying27 hie ze0 ze1 ze2 rfl (by omega) (.slice a2 D.ents.length c2) D.ents.length (pv (eP D.ents)) rfl hrow ⟨u3.heap.size, 0, none⟩ 1 1 [.string zq, .int .i64 iq] rfl rfl (pair_news u3 (.string zq, .int .i64 iq) _) (by intro u hu; simp at hu; rcases hu with rfl | rfl <;> rfl) (by omega) (by unfold maxLen; omega) (by omega) hbw (u3.heap.size + 1) (by simp) ?_; intro g5 c5 u5 ho5 hg5 hat5 hlt5; have d5 := d3.appE (.cells #[.string zq, .int .i64 iq] 67) hg5 (.slice (some ⟨g5, 0, none⟩) (D.ents.length + 1) c5) (D.ents ++ [(zq, iq)]) (by rw [List.length_append, eP_snoc, pv_snoc]; exact ho5); have y5 := d5.x.cell 4; have fz := d5.x.frozen 4; (simp at y5))
      | fail)
    all_goals
      have d6 : DA w (u5.setCell ⟨X, 4, none⟩ (.slice (some ⟨g5, 0, none⟩) (D.ents.length + 1) c5)) gc sn scap sa zs X #[.int .i64 D.ino, .int .i64 D.kind, .int .i64 D.links, (.slice a1 D.data.length c1), (.slice (some ⟨g5, 0, none⟩) (D.ents.length + 1) c5), (.slice a3 D.attrs.length c3)] (.slice a1 D.data.length c1) D.data (.slice (some ⟨g5, 0, none⟩) (D.ents.length + 1) c5) (D.ents ++ [(zq, iq)]) (.slice a3 D.attrs.length c3) D.attrs := d5.setX 4 _
      clear d5 d3 dK d2 d1 dS dI dSI dIS hrow hbw x0 xS xI xSI xIS x2 x3 x5 x6 hS1 hS2 hS3 HC hcI
      go_upto_region 15 with fail
      obtain ⟨W6, hW6⟩ : ∃ W, u5.setCell ⟨X, 4, none⟩ (.slice (some ⟨g5, 0, none⟩) (D.ents.length + 1) c5) = W := ⟨_, rfl⟩
      rw [hW6] at d6 ⊢
      clear hW6 y5 fz
      have hzz := four_zz k4 hk4
      rw [HZQ.out] at hzz
      obtain ⟨q0, q1, q2, q3, q4, q5⟩ := d6.x.six
      obtain ⟨r0, r1, r2, r3, r4, r5⟩ := d6.res.six
      have f0 := d6.res.frozen 0
      have f1 := d6.res.frozen 1
      have f2 := d6.res.frozen 2
      have f3 := d6.res.frozen 3
      have f4 := d6.res.frozen 4
      have f5 := d6.res.frozen 5
      have HK : Hid _ := d6
      clear d6
      go_wp2
      have zf := (((((HK.out.res.set 0 (.int .i64 D.ino)).set 1 (.int .i64 D.kind)).set 2 (.int .i64 D.links)).set 3 (.slice a1 D.data.length c1)).set 4 (.slice (some ⟨g5, 0, none⟩) (D.ents.length + 1) c5)).set 5 (.slice a3 D.attrs.length c3)
      have dd0 := zf.cell 0
      have dd1 := zf.cell 1
      have dd2 := zf.cell 2
      have dd3 := zf.cell 3
      have dd4 := zf.cell 4
      have dd5 := zf.cell 5
      simp at dd0 dd1 dd2 dd3 dd4 dd5
      refine bodyPost_ret (v := .agg #[.int .i64 D.ino, .int .i64 D.kind, .int .i64 D.links, (.slice a1 D.data.length c1), (.slice (some ⟨g5, 0, none⟩) (D.ents.length + 1) c5), (.slice a3 D.attrs.length c3)]) (by simp [results, Try.f30, go_sem, dd0, dd1, dd2, dd3, dd4, dd5]) rfl ?_
      exact any_end HK.out ⟨D.ino, D.kind, D.links, D.data, D.ents ++ [(zq, iq)], D.attrs⟩ rfl rfl rfl hbz ⟨by have := hM.data; dsimp only; omega, by simp; omega, by have := hM.nA; dsimp only; omega, mem_snoc hM.ents hzz, hM.attrs, hM.num⟩ _ _ _ _ _ _
  have n4 : ((x : Int) == 4) = false := by simp; omega
  by_cases h5 : x = 5
  · subst h5
    rw [show ((5 : Nat) : Int) = 5 from rfl]
    have hal := hM.nA
    have dS := (d1.al (.cells #[.string ⟨#[97]⟩, .string ⟨#[122]⟩, .string ⟨#[]⟩] 9)).dr
    have x0 := d1.x.cell 5
    have xS := dS.x.cell 5
    simp at x0 xS
    have hS1 := str_at gc sn scap sa zs u1.heap.size 3 [⟨#[97]⟩, ⟨#[122]⟩, ⟨#[]⟩] _ dS.src rfl (by omega) (by omega) (by omega) (fun j hj => strs_cells u1 [⟨#[97]⟩, ⟨#[122]⟩, ⟨#[]⟩] j hj)
    go_upto_region 14 with fail
    go_region_law (first
      | (go_simp; go_at_call 59; (with_reducible refine hS1.mono ?_); rintro e u2 ⟨k4, rfl, hk4, s4, g4⟩; have d2 := dS.cur s4 g4; obtain ⟨zq, hzq⟩ : ∃ z, ([⟨#[97]⟩, ⟨#[122]⟩, ⟨#[]⟩] : List ByteArray).getD k4 ⟨#[]⟩ = z := ⟨_, rfl⟩; rw [hzq]; have HZQ : Hid _ := hzq; clear hzq; have x2 := d2.x.cell 5; (simp at x2); have hcB := below_step gc sn scap sa zs 3 u2 d2.src (by omega) (by omega); dsimp only)
      | (go_simp; go_at_call 56; (refine hcB.mono ?_); rintro e u3 ⟨k5, rfl, hk5, s5, g5'⟩; have d3 := d2.cur s5 g5'; have hwr : IntKind.i64.wrap (15 + (k5 : Int)) = 15 + (k5 : Int) := (by rw [IntKind.wrap_i64]; omega); have hmk := mk_zeros k5 u3 hk5; have hcv := cv_zeros k5 u3; obtain ⟨zv, hzv⟩ : ∃ z, str (List.replicate (15 + k5) 0) = z := ⟨_, rfl⟩; rw [hzv] at hcv; have HZV : Hid _ := hzv; clear hzv; have d4 := d3.al (.cells (madeCells #[.int .u8 0] (15 + k5)) 5); have x5 := d3.x.cell 5; have x6 := d4.x.cell 5; have x7 := (d4.x.alloc (.cells #[.string zq, .string zv] 70)).cell 5; (simp at x5 x6 x7); have hrow := World.ownsRow.alloc d4.t (.cells #[.string zq, .string zv] 70); have hbw : w.heap.size ≤ ((u3.alloc (.cells (madeCells #[.int .u8 0] (15 + k5)) 5)).alloc (.cells #[.string zq, .string zv] 70)).heap.size := (by simp; have := d3.gr.size; omega); dsimp only)
      | (refine step_append_lies ((u3.alloc (.cells (madeCells #[.int .u8 0] (15 + k5)) 5)).alloc (.cells #[.string zq, .string zv] 70)) rfl (.tmp 49) (.tmp 59) 28 rfl w.heap.size 70 ia _ 2 32 Try.underlying28 hia za0 za1 za2 rfl (by omega) (.slice a3 D.attrs.length c3) D.attrs.length (pv (aP D.attrs)) rfl hrow ⟨u3.heap.size + 1, 0, none⟩ 1 1 [.string zq, .string zv] rfl rfl (by have := pair_news (u3.alloc (.cells (madeCells #[.int .u8 0] (15 + k5)) 5)) (.string zq, .string zv) 70; rw [World.size_alloc] at this; exact this) (by intro u hu; simp at hu; rcases hu with rfl | rfl <;> rfl) (by omega) (by unfold maxLen; omega) (by omega) hbw (u3.heap.size + 1 + 1) (by simp) ?_; intro g5 c5 u5 ho5 hg5 hat5 hlt5; have d5 := d4.appA (.cells #[.string zq, .string zv] 70) hg5 (.slice (some ⟨g5, 0, none⟩) (D.attrs.length + 1) c5) (D.attrs ++ [(zq, zv)]) (by rw [List.length_append, aP_snoc, pv_snoc]; exact ho5); have y5 := d5.x.cell 5; have fz := d5.x.frozen 5; (simp at y5))
      | fail)
    all_goals
      have d6 : DA w (u5.setCell ⟨X, 5, none⟩ (.slice (some ⟨g5, 0, none⟩) (D.attrs.length + 1) c5)) gc sn scap sa zs X #[.int .i64 D.ino, .int .i64 D.kind, .int .i64 D.links, (.slice a1 D.data.length c1), (.slice a2 D.ents.length c2), (.slice (some ⟨g5, 0, none⟩) (D.attrs.length + 1) c5)] (.slice a1 D.data.length c1) D.data (.slice a2 D.ents.length c2) D.ents (.slice (some ⟨g5, 0, none⟩) (D.attrs.length + 1) c5) (D.attrs ++ [(zq, zv)]) := d5.setX 5 _
      clear d5 d4 d3 d2 d1 dS hrow hbw x0 xS x2 x5 x6 x7 hS1 hcB hmk hcv
      go_upto_region 15 with fail
      obtain ⟨W6, hW6⟩ : ∃ W, u5.setCell ⟨X, 5, none⟩ (.slice (some ⟨g5, 0, none⟩) (D.attrs.length + 1) c5) = W := ⟨_, rfl⟩
      rw [hW6] at d6 ⊢
      clear hW6 y5 fz
      have hzz := three_sz k4 hk4
      rw [HZQ.out] at hzz
      have hzl : zv.size ≤ 17 := by rw [← HZV.out, str_size, List.length_replicate]; omega
      obtain ⟨q0, q1, q2, q3, q4, q5⟩ := d6.x.six
      obtain ⟨r0, r1, r2, r3, r4, r5⟩ := d6.res.six
      have f0 := d6.res.frozen 0
      have f1 := d6.res.frozen 1
      have f2 := d6.res.frozen 2
      have f3 := d6.res.frozen 3
      have f4 := d6.res.frozen 4
      have f5 := d6.res.frozen 5
      have HK : Hid _ := d6
      clear d6
      go_wp2
      have zf := (((((HK.out.res.set 0 (.int .i64 D.ino)).set 1 (.int .i64 D.kind)).set 2 (.int .i64 D.links)).set 3 (.slice a1 D.data.length c1)).set 4 (.slice a2 D.ents.length c2)).set 5 (.slice (some ⟨g5, 0, none⟩) (D.attrs.length + 1) c5)
      have dd0 := zf.cell 0
      have dd1 := zf.cell 1
      have dd2 := zf.cell 2
      have dd3 := zf.cell 3
      have dd4 := zf.cell 4
      have dd5 := zf.cell 5
      simp at dd0 dd1 dd2 dd3 dd4 dd5
      refine bodyPost_ret (v := .agg #[.int .i64 D.ino, .int .i64 D.kind, .int .i64 D.links, (.slice a1 D.data.length c1), (.slice a2 D.ents.length c2), (.slice (some ⟨g5, 0, none⟩) (D.attrs.length + 1) c5)]) (by simp [results, Try.f30, go_sem, dd0, dd1, dd2, dd3, dd4, dd5]) rfl ?_
      exact any_end HK.out ⟨D.ino, D.kind, D.links, D.data, D.ents, D.attrs ++ [(zq, zv)]⟩ rfl rfl rfl hbz ⟨by have := hM.data; dsimp only; omega, by have := hM.nE; dsimp only; omega, by simp; omega, hM.ents, mem_snoc hM.attrs ⟨hzz, hzl⟩, hM.num⟩ _ _ _ _ _ _
  have n5 : ((x : Int) == 5) = false := by simp; omega
  go_upto_region 15 with fail
  obtain ⟨q0, q1, q2, q3, q4, q5⟩ := d1.x.six
  obtain ⟨r0, r1, r2, r3, r4, r5⟩ := d1.res.six
  have f0 := d1.res.frozen 0
  have f1 := d1.res.frozen 1
  have f2 := d1.res.frozen 2
  have f3 := d1.res.frozen 3
  have f4 := d1.res.frozen 4
  have f5 := d1.res.frozen 5
  have HK : Hid _ := d1
  clear d1
  go_wp2
  have zf := (((((HK.out.res.set 0 (.int .i64 D.ino)).set 1 (.int .i64 D.kind)).set 2 (.int .i64 D.links)).set 3 (.slice a1 D.data.length c1)).set 4 (.slice a2 D.ents.length c2)).set 5 (.slice a3 D.attrs.length c3)
  have dd0 := zf.cell 0
  have dd1 := zf.cell 1
  have dd2 := zf.cell 2
  have dd3 := zf.cell 3
  have dd4 := zf.cell 4
  have dd5 := zf.cell 5
  simp at dd0 dd1 dd2 dd3 dd4 dd5
  refine bodyPost_ret (v := .agg #[.int .i64 D.ino, .int .i64 D.kind, .int .i64 D.links, (.slice a1 D.data.length c1), (.slice a2 D.ents.length c2), (.slice a3 D.attrs.length c3)]) (by simp [results, Try.f30, go_sem, dd0, dd1, dd2, dd3, dd4, dd5]) rfl ?_
  exact any_end HK.out ⟨D.ino, D.kind, D.links, D.data, D.ents, D.attrs⟩ rfl rfl rfl hbz ⟨by have := hM.data; dsimp only; omega, by have := hM.nE; dsimp only; omega, by have := hM.nA; dsimp only; omega, hM.ents, hM.attrs, hM.num⟩ _ _ _ _ _ _
end Go.Proofs.Ytgcmpimckpnemaa
