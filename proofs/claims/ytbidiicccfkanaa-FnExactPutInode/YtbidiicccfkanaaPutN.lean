/-
  The law FnExactPutInode, where the inode is not right.
-/
import Derived.Test.YtbidiicccfkanaaSpecPut
import Derived.Test.YtbidiicccfkanaaEqIno
import Derived.Test.YtbidiicccfkanaaInoOpen
import Derived.Test.YtbidiicccfkanaaPutW0
namespace Go.Proofs.Ytbidiicccfkanaa
open Go.RowKit

set_option maxRecDepth 100000 in
set_option maxHeartbeats 4000000 in
theorem walk_no (D : InoD) (x1 : Option Addr) (c1 : Nat) (x2 : Option Addr) (c2 : Nat) (x3 : Option Addr) (c3 : Nat) (w : World) (hi : InoIn D) (hr : InoRd w D x1 x2 x3) (hok : inoOk D = false) :
    Calls Try.prog 9 #[inoV D x1 c1 x2 c2 x3 c3] w fun e w' => e = .returned (.bool true) ∧ Below w.heap.size w w' := by
  have B0 : Below w.heap.size w (w.alloc (.cells (inoC D x1 c1 x2 c2 x3 c3) 56)) := (Below.refl _ w).alloc (Nat.le_refl _) _
  have z0 := Box.new w 56 D x1 x2 x3 c1 c2 c3
  unfold inoC at B0 z0
  unfold inoV
  have cS := fun (W : World) (a1 a2 a3 : Option Addr) (d1 d2 d3 : Nat) (hm : InoSmall D) (h : InoRd W D a1 a2 a3) => putS_no D a1 a2 a3 d1 d2 d3 W hm h hok
  have cI := fun (W : World) (a1 a2 a3 : Option Addr) (d1 d2 d3 : Nat) (hm : InoSmall D) (h : InoRd W D a1 a2 a3) => putI_no D a1 a2 a3 d1 d2 d3 W hm h hok
  go_enter Try.func9, Try.ntmps9
  go_wp2_with fail
  obtain ⟨W0, hW0⟩ : ∃ W, w.alloc (.cells #[.int .i64 D.ino, .int .i64 D.kind, .int .i64 D.links, .slice x1 D.data.length c1, .slice x2 D.ents.length c2, .slice x3 D.attrs.length c3] 56) = W := ⟨_, rfl⟩
  rw [hW0] at B0 z0 ⊢
  clear hW0
  refine (szInode_any D x1 x2 x3 c1 c2 c3 1048576 W0 (by omega) hi (hr.keep B0)).mono ?_
  rintro e w1 ⟨hsz, b1⟩
  have B1 := B0.trans (b1.mono B0.size)
  have z1 := z0.keep b1
  rcases hsz with rfl | ⟨x, hx, rfl, hsm⟩
  · go_wp2
    go_ret
    exact ⟨rfl, B1⟩
  have hx0 : ¬ (x : Int) < 0 := by omega
  obtain ⟨q0, q1, q2, q3, q4, q5⟩ := z1.six
  clear B0 z0 b1
  go_wp2_with fail
  refine (toInode_any D x1 x2 x3 c1 c2 c3 w1 hsm.data hsm.ents hsm.attrs (hr.keep B1)).mono ?_
  rintro e w2 ⟨g1, g2, g3, rfl, hg1, hg2, hg3, oA, b2⟩
  have B2 := B1.trans (b2.mono B1.size)
  have z2 := z1.keep b2
  clear q0 q1 q2 q3 q4 q5
  go_wp2_with fail
  refine (cS w2 _ _ _ _ _ _ hsm oA.rd).mono ?_
  rintro e w3 ⟨gw, rfl, b3⟩
  have B3 := B2.trans (b3.mono B2.size)
  have z3 := z2.keep b3
  have hz3 := z3.lt
  obtain ⟨q0, q1, q2, q3, q4, q5⟩ := z3.six
  go_wp2_with fail
  refine (toInode_any D x1 x2 x3 c1 c2 c3 w3 hsm.data hsm.ents hsm.attrs (hr.keep B3)).mono ?_
  rintro e w4 ⟨h1, h2, h3, rfl, hh1, hh2, hh3, oB, b4⟩
  have B4 := B3.trans (b4.mono B3.size)
  have z4 := z3.keep b4
  have hB3 := B3.size
  clear q0 q1 q2 q3 q4 q5 z1 z2 z3 b2 b3 oA B1 B2 hg1 hg2 hg3
  unfold inoV
  have b5 : Below w4.heap.size w4 (w4.alloc (.cells (inoC D (some ⟨h1, 0, none⟩) D.data.length (some ⟨h2, 0, none⟩) D.ents.length (some ⟨h3, 0, none⟩) D.attrs.length) 37)) := (Below.refl _ w4).alloc (Nat.le_refl _) _
  have y5 := Box.new w4 37 D (some ⟨h1, 0, none⟩) (some ⟨h2, 0, none⟩) (some ⟨h3, 0, none⟩) D.data.length D.ents.length D.attrs.length
  unfold inoC at b5 y5
  go_wp2_with fail
  obtain ⟨W5, hW5⟩ : ∃ W, w4.alloc (.cells #[.int .i64 D.ino, .int .i64 D.kind, .int .i64 D.links, .slice (some ⟨h1, 0, none⟩) D.data.length D.data.length, .slice (some ⟨h2, 0, none⟩) D.ents.length D.ents.length, .slice (some ⟨h3, 0, none⟩) D.attrs.length D.attrs.length] 37) = W := ⟨_, rfl⟩
  rw [hW5] at b5 y5 ⊢
  clear hW5
  have B5 := B4.trans (b5.mono B4.size)
  have z5 := z4.keep b5
  have oB5 := oB.keep b5
  refine (cI W5 _ _ _ _ _ _ hsm oB5.rd).mono ?_
  rintro e w6 ⟨rfl, b6⟩
  have B6 := B5.trans (b6.mono B5.size)
  have z6 := z5.keep b6
  have y6 := y5.keep b6
  have oB6 := oB5.keep b6
  clear z4 z5 y5 oB oB5 b4 b5 b6 B4 B5
  obtain ⟨G, hG⟩ : ∃ G, w4.heap.size = G := ⟨_, rfl⟩
  rw [hG] at y6 ⊢
  go_wp2_with fail
  refine (eqByteS_true _ _ 0 0 0 [] _ rfl (by omega) (.inl rfl) (.inl rfl)).mono ?_
  rintro e w7 ⟨rfl, b7⟩
  have B7 := B6.trans (b7.mono B6.size)
  have z7 := z6.keep b7
  have y7 := y6.keep b7
  have oB7 := oB6.keep b7
  have r7 := hr.keep B7.drew
  have oB7d := oB7.keep (Below.refl w7.heap.size w7).drew
  have y7d := y7.keep (Below.refl w7.heap.size w7).drew
  obtain ⟨q0, q1, q2, q3, q4, q5⟩ := z7.six
  obtain ⟨p0, p1, p2, p3, p4, p5⟩ := y7.six
  have hbs7 := B7.size
  clear z6 y6 oB6 b7 B6
  go_upto_region 10 with fail
  go_cut [31] (fun s wx => s = .bool false ∧ Below w7.heap.size w7 wx)
  case first =>
    go_region_with (first
      | (go_at_call 37; refine (toInode_any D x1 x2 x3 c1 c2 c3 _ hsm.data hsm.ents hsm.attrs r7).mono ?_; rintro e wA ⟨k1, k2, k3, rfl, hk1, hk2, hk3, oC, b9⟩; unfold inoV; have oBA := oB7d.keep b9; obtain ⟨t0, t1, t2, t3, t4, t5⟩ := (y7d.keep b9).six)
      | (go_at_call 38; refine (eqInode_same D _ _ _ _ _ _ _ _ _ _ _ _ _ hsm.data hsm.ents hsm.attrs oBA.rd oC.rd).mono ?_; rintro e wB ⟨rfl, b10⟩))
    all_goals (go_wp2_with fail; go_meet; exact ⟨rfl, (Below.refl w7.heap.size w7).drew.trans (b9.trans (b10.mono b9.size))⟩)
  case rest =>
  obtain ⟨w8, hwc⟩ : ∃ W, W = wc := ⟨_, rfl⟩
  subst hwc
  obtain ⟨rfl, b8⟩ := hcut
  have B8 := B7.trans (b8.mono hbs7)
  have z8 := z7.keep b8
  have y8 := y7.keep b8
  have oB8 := oB7.keep b8
  clear q0 q1 q2 q3 q4 q5 p0 p1 p2 p3 p4 p5 r7 oB7d y7d z7 y7 oB7 b8 B7
  obtain ⟨p0, p1, p2, p3, p4, p5⟩ := y8.six
  have hbs8 := B8.size
  go_wp2_with fail
  refine (markIno_any D.ino D.kind D.links D _ _ _ w8 D.data.length D.ents.length D.attrs.length rfl rfl rfl hsm.data hsm.ents hsm.attrs oB8.toQ).mono ?_
  rintro e w9 ⟨rfl, _, bt⟩
  have B9 : Below w.heap.size w w9 := bt.below B8 hbs8 (by intro g hg; simp [Value.ownBlock] at hg; omega) (by intro g hg; simp [Value.ownBlock] at hg; omega) (by intro g hg; simp [Value.ownBlock] at hg; omega)
  have z9 : Box w9 w.heap.size 56 D x1 c1 x2 c2 x3 c3 := (bt.block _ z8.lt (by simp [Value.ownBlock]; omega) (by simp [Value.ownBlock]; omega) (by simp [Value.ownBlock]; omega)).trans z8
  obtain ⟨m, hm⟩ : ∃ m, D.data.length + 1 + 2 * D.ents.length + 2 * D.attrs.length = m := ⟨_, rfl⟩
  rw [hm]
  have hm0 : ¬ (m : Int) < 0 := by omega
  clear p0 p1 p2 p3 p4 p5 y8 oB8 bt z8 hm
  go_wp2_with fail
  refine (eqByteS_true _ _ 0 0 0 [] _ rfl (by omega) (.inl rfl) (.inl rfl)).mono ?_
  rintro e w10 ⟨rfl, b10⟩
  have B10 := B9.trans (b10.mono B9.size)
  have z10 := z9.keep b10
  clear z9 b10
  go_wp2_with fail
  refine (markB_any _ 0 [] _ (by omega) (ownV_nil 0 _)).mono ?_
  rintro e w11 ⟨rfl, _, hg11⟩
  have B11 : Below w.heap.size w w11 := B10.grown hg11 B10.size (by intro k hk; simp [Value.ownBlock] at hk)
  have z11 : Box w11 w.heap.size 56 D x1 c1 x2 c2 x3 c3 := (hg11.block _ z10.lt (by simp [Value.ownBlock])).trans z10
  clear hg11 z10
  go_wp2_with fail
  refine (heldB_any _ 0 _ (by omega) (ownV_nil 0 _)).mono ?_
  rintro e w11' ⟨rfl, rfl⟩
  obtain ⟨q0, q1, q2, q3, q4, q5⟩ := z11.six
  go_wp2_with fail
  refine (toInode_any D x1 x2 x3 c1 c2 c3 _ hsm.data hsm.ents hsm.attrs (hr.keep B11)).mono ?_
  rintro e w12 ⟨k1, k2, k3, rfl, hk1, hk2, hk3, oC, b12⟩
  have B12 := B11.trans (b12.mono B11.size)
  clear q0 q1 q2 q3 q4 q5 z11 b12
  go_wp2_with fail
  refine (cI w12 _ _ _ _ _ _ hsm oC.rd).mono ?_
  rintro e w13 ⟨rfl, b13⟩
  have B13 := B12.trans (b13.mono B12.size)
  clear b13 oC
  go_wp2_with fail
  refine (eqByteS_true _ _ 0 0 0 [] _ rfl (by omega) (.inl rfl) (.inl rfl)).mono ?_
  rintro e w14 ⟨rfl, b14⟩
  have B14 := B13.trans (b14.mono B13.size)
  clear b14
  go_wp2_with fail
  refine (heldB_any _ 0 _ (by omega) (ownV_nil 0 _)).mono ?_
  rintro e w14' ⟨rfl, rfl⟩
  go_wp2
  go_ret
  exact ⟨rfl, B14⟩
end Go.Proofs.Ytbidiicccfkanaa
