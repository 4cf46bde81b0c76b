/-
  Proved: for every two inodes the law FnExactSameInode answers true and leaves its arguments as they were; no condition.
  The frame is the one that the guide's own program writes for a law over one []byte, turned to this law's parameters.
-/
import Derived.Test.YtbidiicccfkanaaRows
import Derived.Test.YtbidiicccfkanaaSameS
import Derived.Test.YtbidiicccfkanaaEqIno
import Derived.Test.YtbidiicccfkanaaInoOpen
import Derived.WalkKit
import Derived.ProofKit
import Derived.OpenShut
import Derived.ShutString
import Derived.ChangeOld
import Derived.Below
namespace Go.Proofs.Ytbidiicccfkanaa.fnExactSameInode
open Go.ChangeShapes Go.WideShapes Go.ChangeAt Go.RowKit
open Go.ChangeMaps (open_string shut_string)
set_option linter.unusedVariables false

theorem own : ownKnob Try.prog.godebug = none := by kernel_rfl
theorem laidOut : laidOutB Try.prog = true := by kernel_rfl

/-! ### STEP 1: THE WALK: the Go text returns true, AND WRITES NOTHING THAT WAS THERE: 'Below w.heap.size w w'' (Derived/Below.lean: '.refl', '.alloc', '.drew', '.setCell' at a new block, '.trans'). Open each 'IsRow' by 'rcases' AHEAD of 'go_enter'; part every test ahead of the walk. -/
theorem two_boxesL (w : World) (D E : InoD) (a1 a2 a3 b1 b2 b3 : Option Addr) (c1 c2 c3 d1 d2 d3 : Nat) :
    ∃ W, (w.alloc (.cells #[.int .i64 D.ino, .int .i64 D.kind, .int .i64 D.links, .slice a1 D.data.length c1, .slice a2 D.ents.length c2, .slice a3 D.attrs.length c3] 56)).alloc (.cells #[.int .i64 E.ino, .int .i64 E.kind, .int .i64 E.links, .slice b1 E.data.length d1, .slice b2 E.ents.length d2, .slice b3 E.attrs.length d3] 56) = W ∧ Below w.heap.size w W ∧ Box W w.heap.size 56 D a1 c1 a2 c2 a3 c3 ∧ Box W (w.heap.size + 1) 56 E b1 d1 b2 d2 b3 d3 := by
  refine ⟨_, rfl, ((Below.refl _ w).alloc (Nat.le_refl _) _).alloc (by simp) _, (Blk.new w 56 _).alloc _, ?_⟩
  have := Blk.new (w.alloc (.cells #[.int .i64 D.ino, .int .i64 D.kind, .int .i64 D.links, .slice a1 D.data.length c1, .slice a2 D.ents.length c2, .slice a3 D.attrs.length c3] 56)) 56 #[.int .i64 E.ino, .int .i64 E.kind, .int .i64 E.links, .slice b1 E.data.length d1, .slice b2 E.ents.length d2, .slice b3 E.attrs.length d3]
  simp only [World.size_alloc] at this
  exact this

set_option maxRecDepth 100000 in
set_option maxHeartbeats 4000000 in
theorem walk (D : InoD) (x1 : Option Addr) (c1 : Nat) (x2 : Option Addr) (c2 : Nat) (x3 : Option Addr) (c3 : Nat) (E : InoD) (y1 : Option Addr) (d1 : Nat) (y2 : Option Addr) (d2 : Nat) (y3 : Option Addr) (d3 : Nat) (w : World) (hi : InoIn D) (hr : InoRd w D x1 x2 x3) (hi' : InoIn E) (hr' : InoRd w E y1 y2 y3) :
    Calls Try.prog 11 #[inoV D x1 c1 x2 c2 x3 c3, inoV E y1 d1 y2 d2 y3 d3] w fun e w' => e = .returned (.bool true) ∧ Below w.heap.size w w' := by
  obtain ⟨W0, hW0, B0, z0, v0⟩ := two_boxesL w D E x1 x2 x3 y1 y2 y3 c1 c2 c3 d1 d2 d3
  have HW0 : Hid _ := hW0
  clear hW0
  unfold inoV
  go_enter Try.func11, Try.ntmps11
  go_wp2_with fail
  rw [HW0.out]
  clear HW0
  refine (szInode_any D x1 x2 x3 c1 c2 c3 1048576 W0 (by omega) hi (hr.keep B0)).mono ?_
  rintro e w1 ⟨hsz, b1⟩
  have B1 := B0.trans (b1.mono B0.size)
  have z1 := z0.keep b1
  have v1 := v0.keep b1
  rcases hsz with rfl | ⟨x, hx, rfl, hsm⟩
  · go_wp2
    go_ret
    exact ⟨rfl, B1⟩
  have hx0 : ¬ (x : Int) < 0 := by omega
  obtain ⟨q0, q1, q2, q3, q4, q5⟩ := v1.six
  clear B0 z0 v0 b1
  go_wp2_with fail
  refine (szInode_any E y1 y2 y3 d1 d2 d3 x w1 hx hi' (hr'.keep B1)).mono ?_
  rintro e w2 ⟨hsz, b2⟩
  have B2 := B1.trans (b2.mono B1.size)
  have z2 := z1.keep b2
  have v2 := v1.keep b2
  clear q0 q1 q2 q3 q4 q5
  rcases hsz with rfl | ⟨x', hx', rfl, hsm'⟩
  · go_wp2
    go_ret
    exact ⟨rfl, B2⟩
  have hx0' : ¬ (x' : Int) < 0 := by omega
  obtain ⟨q0, q1, q2, q3, q4, q5⟩ := z2.six
  obtain ⟨p0, p1, p2, p3, p4, p5⟩ := v2.six
  have r2 := hr.keep B2.drew
  have s2 := hr'.keep B2.drew
  have z2d := z2.keep (Below.refl w2.heap.size w2).drew
  have v2d := v2.keep (Below.refl w2.heap.size w2).drew
  have hbs2 := B2.size
  obtain ⟨G0, hG0⟩ : ∃ G, w.heap.size = G := ⟨_, rfl⟩
  rw [hG0] at z2 v2 z2d v2d q0 q1 q2 q3 q4 q5 p0 p1 p2 p3 p4 p5 ⊢
  clear B1 z1 v1 b2
  have cD : ∀ W : World, InoRd W D x1 x2 x3 → Calls Try.prog 37 #[.agg #[.int .i64 D.ino, .int .i64 D.kind, .int .i64 D.links, .slice x1 D.data.length c1, .slice x2 D.ents.length c2, .slice x3 D.attrs.length c3]] W fun e w' => ∃ g1 g2 g3 : Nat, e = .returned (.agg #[.int .i64 D.ino, .int .i64 D.kind, .int .i64 D.links, .slice (some ⟨g1, 0, none⟩) D.data.length D.data.length, .slice (some ⟨g2, 0, none⟩) D.ents.length D.ents.length, .slice (some ⟨g3, 0, none⟩) D.attrs.length D.attrs.length]) ∧ W.heap.size ≤ g1 ∧ g1 < g2 ∧ g2 < g3 ∧ InoOwn w' D g1 D.data.length g2 D.ents.length g3 D.attrs.length ∧ Below W.heap.size W w' := fun W hw => toInode_any D x1 x2 x3 c1 c2 c3 W hsm.data hsm.ents hsm.attrs hw
  have cE : ∀ W : World, InoRd W E y1 y2 y3 → Calls Try.prog 37 #[.agg #[.int .i64 E.ino, .int .i64 E.kind, .int .i64 E.links, .slice y1 E.data.length d1, .slice y2 E.ents.length d2, .slice y3 E.attrs.length d3]] W fun e w' => ∃ g1 g2 g3 : Nat, e = .returned (.agg #[.int .i64 E.ino, .int .i64 E.kind, .int .i64 E.links, .slice (some ⟨g1, 0, none⟩) E.data.length E.data.length, .slice (some ⟨g2, 0, none⟩) E.ents.length E.ents.length, .slice (some ⟨g3, 0, none⟩) E.attrs.length E.attrs.length]) ∧ W.heap.size ≤ g1 ∧ g1 < g2 ∧ g2 < g3 ∧ InoOwn w' E g1 E.data.length g2 E.ents.length g3 E.attrs.length ∧ Below W.heap.size W w' := fun W hw => toInode_any E y1 y2 y3 d1 d2 d3 W hsm'.data hsm'.ents hsm'.attrs hw
  go_upto_region 8 with fail
  go_cut [6] (fun s wx => s = .bool (sameOf D E) ∧ Below w2.heap.size w2 wx)
  case first =>
    go_region_with (first
      | (go_at_call 37; with_reducible refine (cD w2.drew r2).mono ?_; rintro e wA ⟨k1, k2, k3, rfl, hk1, hk2, hk3, oC, b7⟩; have s7 := s2.keep b7; obtain ⟨t0, t1, t2, t3, t4, t5⟩ := (v2d.keep b7).six)
      | (go_at_call 37; with_reducible refine (cE wA s7).mono ?_; rintro e wB ⟨l1, l2, l3, rfl, hl1, hl2, hl3, oF, b8⟩; have oC8 := (oC.keep b8).rd; have oF8 := oF.rd; have b78 := b7.trans (b8.mono b7.size))
      | (go_at_call 37; with_reducible refine (cE w2.drew s2).mono ?_; rintro e wC ⟨l1, l2, l3, rfl, hl1, hl2, hl3, oF, b7⟩; have s7' := r2.keep b7; obtain ⟨t0, t1, t2, t3, t4, t5⟩ := (z2d.keep b7).six)
      | (go_at_call 37; with_reducible refine (cD wC s7').mono ?_; rintro e wB ⟨k1, k2, k3, rfl, hk1, hk2, hk3, oC, b8⟩; have oF8 := (oF.keep b8).rd; have oC8 := oC.rd; have b78 := b7.trans (b8.mono b7.size))
      | (go_at_call 30; refine (sameS D E _ _ _ _ _ _ _ _ _ _ _ _ wB hsm hsm' oC8 oF8).mono ?_; rintro e w9 ⟨rfl, b9⟩))
    all_goals (go_wp2_with fail; go_meet; exact ⟨rfl, (Below.refl w2.heap.size w2).drew.trans (b78.trans (b9.mono b78.size))⟩)
  case rest =>
    clear cD cE
    obtain ⟨rfl, b3⟩ := hcut
    have B3 := B2.trans (b3.mono hbs2)
    have z3 := z2.keep b3
    have v3 := v2.keep b3
    clear q0 q1 q2 q3 q4 q5 p0 p1 p2 p3 p4 p5 r2 s2 z2d v2d
    obtain ⟨q0, q1, q2, q3, q4, q5⟩ := z3.six
    obtain ⟨R, hR⟩ : ∃ R, sameOf D E = R := ⟨_, rfl⟩
    rw [hR]
    go_wp2_with fail
    refine (toInode_any D x1 x2 x3 c1 c2 c3 wc hsm.data hsm.ents hsm.attrs (hr.keep B3)).mono ?_
    rintro e w4 ⟨h1, h2, h3, rfl, hh1, hh2, hh3, oB, b4⟩
    have B4 := B3.trans (b4.mono B3.size)
    have z4 := z3.keep b4
    have v4 := v3.keep b4
    clear q0 q1 q2 q3 q4 q5 z2 v2 z3 v3 B2 b3 b4
    unfold inoV
    obtain ⟨p0, p1, p2, p3, p4, p5⟩ := v4.six
    have b5 : Below w4.heap.size w4 (w4.alloc (.cells (inoC D (some ⟨h1, 0, none⟩) D.data.length (some ⟨h2, 0, none⟩) D.ents.length (some ⟨h3, 0, none⟩) D.attrs.length) 37)) := (Below.refl _ w4).alloc (Nat.le_refl _) _
    have m5 := Box.new w4 37 D (some ⟨h1, 0, none⟩) (some ⟨h2, 0, none⟩) (some ⟨h3, 0, none⟩) D.data.length D.ents.length D.attrs.length
    unfold inoC at b5 m5
    have hlt4 := v4.lt
    go_wp2_with fail
    obtain ⟨W5, hW5⟩ : ∃ W, w4.alloc (.cells #[.int .i64 D.ino, .int .i64 D.kind, .int .i64 D.links, .slice (some ⟨h1, 0, none⟩) D.data.length D.data.length, .slice (some ⟨h2, 0, none⟩) D.ents.length D.ents.length, .slice (some ⟨h3, 0, none⟩) D.attrs.length D.attrs.length] 37) = W := ⟨_, rfl⟩
    rw [hW5] at b5 m5 ⊢
    clear hW5 p0 p1 p2 p3 p4 p5
    obtain ⟨G4, hG4⟩ : ∃ G, w4.heap.size = G := ⟨_, rfl⟩
    rw [hG4] at m5 ⊢
    have B5 := B4.trans (b5.mono B4.size)
    have z5 := z4.keep b5
    have v5 := v4.keep b5
    have oB5 := oB.keep b5
    refine (toInode_any E y1 y2 y3 d1 d2 d3 W5 hsm'.data hsm'.ents hsm'.attrs (hr'.keep B5)).mono ?_
    rintro e w6 ⟨e1, e2, e3, rfl, he1, he2, he3, oE, b6⟩
    have B6 := B5.trans (b6.mono B5.size)
    have z6 := z5.keep b6
    have v6 := v5.keep b6
    have m6 := m5.keep b6
    have oB6 := oB5.keep b6
    unfold inoV
    have b7 : Below w6.heap.size w6 (w6.alloc (.cells (inoC E (some ⟨e1, 0, none⟩) E.data.length (some ⟨e2, 0, none⟩) E.ents.length (some ⟨e3, 0, none⟩) E.attrs.length) 37)) := (Below.refl _ w6).alloc (Nat.le_refl _) _
    have n7 := Box.new w6 37 E (some ⟨e1, 0, none⟩) (some ⟨e2, 0, none⟩) (some ⟨e3, 0, none⟩) E.data.length E.ents.length E.attrs.length
    unfold inoC at b7 n7
    have m7 := m6.keep b7
    obtain ⟨q0, q1, q2, q3, q4, q5⟩ := m7.six
    clear z4 v4 z5 v5 m5 oB oB5 b5 b6 B4 B5
    go_wp2_with fail
    obtain ⟨W7, hW7⟩ : ∃ W, w6.alloc (.cells #[.int .i64 E.ino, .int .i64 E.kind, .int .i64 E.links, .slice (some ⟨e1, 0, none⟩) E.data.length E.data.length, .slice (some ⟨e2, 0, none⟩) E.ents.length E.ents.length, .slice (some ⟨e3, 0, none⟩) E.attrs.length E.attrs.length] 37) = W := ⟨_, rfl⟩
    rw [hW7] at b7 n7 m7 ⊢
    clear hW7 q0 q1 q2 q3 q4 q5
    obtain ⟨G6, hG6⟩ : ∃ G, w6.heap.size = G := ⟨_, rfl⟩
    rw [hG6] at n7 ⊢
    have B7 := B6.trans (b7.mono B6.size)
    have z7 := z6.keep b7
    have v7 := v6.keep b7
    have oB7 := oB6.keep b7
    have oE7 := oE.keep b7
    refine (sameI D E _ _ _ _ _ _ _ _ _ _ _ _ W7 hsm hsm' oB7.rd oE7.rd).mono ?_
    rintro e w8 ⟨rfl, b8⟩
    have B8 := B7.trans (b8.mono B7.size)
    have z8 := z7.keep b8
    have v8 := v7.keep b8
    have m8 := m7.keep b8
    have n8 := n7.keep b8
    have oB8 := oB7.keep b8
    have oE8 := oE7.keep b8
    rw [hR]
    clear z6 v6 m6 n7 m7 z7 v7 oB6 oB7 oE oE7 b7 b8 B6 B7
    obtain ⟨q0, q1, q2, q3, q4, q5⟩ := z8.six
    obtain ⟨p0, p1, p2, p3, p4, p5⟩ := m8.six
    have r8 := hr.keep B8.drew
    have oB8d := oB8.keep (Below.refl w8.heap.size w8).drew
    have m8d := m8.keep (Below.refl w8.heap.size w8).drew
    have hbs8 := B8.size
    have hRR : (R != R) = false := by simp
    go_upto_region 14 with fail
    go_cut [39] (fun s wx => s = .bool false ∧ Below w8.heap.size w8 wx)
    case first =>
      go_region_with (first
        | (go_at_call 37; refine (toInode_any D x1 x2 x3 c1 c2 c3 _ hsm.data hsm.ents hsm.attrs r8).mono ?_; rintro e wA ⟨k1, k2, k3, rfl, hk1, hk2, hk3, oC, b9⟩; unfold inoV; have oBA := oB8d.keep b9; obtain ⟨t0, t1, t2, t3, t4, t5⟩ := (m8d.keep b9).six)
        | (go_at_call 38; refine (eqInode_same D _ _ _ _ _ _ _ _ _ _ _ _ _ hsm.data hsm.ents hsm.attrs oBA.rd oC.rd).mono ?_; rintro e wB ⟨rfl, b10⟩))
      all_goals (go_wp2_with fail; go_meet; exact ⟨rfl, (Below.refl w8.heap.size w8).drew.trans (b9.trans (b10.mono b9.size))⟩)
    case rest =>
      obtain ⟨rfl, b9⟩ := hcut
      have B9 := B8.trans (b9.mono hbs8)
      have v9 := v8.keep b9
      have n9 := n8.keep b9
      have oE9 := oE8.keep b9
      clear q0 q1 q2 q3 q4 q5 p0 p1 p2 p3 p4 p5 r8 oB8d m8d z8 v8 m8 n8 oB8 oE8 b9 B8
      rename_i wd
      obtain ⟨q0, q1, q2, q3, q4, q5⟩ := v9.six
      obtain ⟨p0, p1, p2, p3, p4, p5⟩ := n9.six
      have r9 := hr'.keep B9.drew
      have oE9d := oE9.keep (Below.refl _ _).drew
      have n9d := n9.keep (Below.refl _ _).drew
      have hbs9 := B9.size
      go_wp2
      go_region_with (first
        | (go_at_call 37; refine (toInode_any E y1 y2 y3 d1 d2 d3 _ hsm'.data hsm'.ents hsm'.attrs r9).mono ?_; rintro e wA ⟨k1, k2, k3, rfl, hk1, hk2, hk3, oC, b10⟩; unfold inoV; have oEA := oE9d.keep b10; obtain ⟨t0, t1, t2, t3, t4, t5⟩ := (n9d.keep b10).six)
        | (go_at_call 38; refine (eqInode_same E _ _ _ _ _ _ _ _ _ _ _ _ _ hsm'.data hsm'.ents hsm'.attrs oEA.rd oC.rd).mono ?_; rintro e wB ⟨rfl, b11⟩))
      all_goals go_wp2
      all_goals go_ret
      all_goals exact ⟨rfl, by rw [hG0] at *; exact B9.drew.trans ((b10.trans (b11.mono b10.size)).mono hbs9)⟩

/-! ### THE ROW's STEP: WRITTEN OUT: LEAVE IT -/
set_option maxRecDepth 100000 in
theorem lifted (os : Os) (started : os.Started) (H : Type) (enc : TypeId × Value → H) :
    ReturnsInHanded {} Try.checked os 11 .any (Rows.fnExactSameInodeSpec.pre6 enc Try.prog Try.f11 Rows.fnExactSameInodeRow.domain false) (Rows.fnExactSameInodeSpec.post enc Try.prog Try.f11 false true false false) := by
  refine returnsInHanded_of_change (C := Try.checked) own started (by kernel_rfl) Try.func11
    (ChangeSpec.witness6 (enc := enc) (C := Try.checked) false ⟨#[], #[.agg #[.int .i64 0, .int .i64 0, .int .i64 0, .slice none 0 0, .slice none 0 0, .slice none 0 0], .agg #[.int .i64 0, .int .i64 0, .int .i64 0, .slice none 0 0, .slice none 0 0, .slice none 0 0]], []⟩ 8 (by kernel_rfl) (by kernel_rfl) (by kernel_rfl) (by kernel_rfl)) ?_
  intro W base args ds gs before hval0 hW hcnd _
  have hval : ∀ (j : Nat) t v, Try.f11.params[j]? = some t → args[j]? = some v → Value.okWide Try.prog W .any base t v := hval0
  have hW' := hW
  obtain ⟨p, q, hA0, hV, rfl, hfz, hnd⟩ := hW
  have hA : DataW.TrodAll enc Try.prog W 0 (fun _ => true) true Try.f11.params.toList args.toList ds p := hA0
  rw [Try.params11] at hA hval
  obtain ⟨v0, vs0, d0, ds0, p0, q0, hargs, rfl, rfl, h0, r0⟩ := trodAll_cons hA
  obtain ⟨v1, vs1, d1, ds1, p1, q1, rfl, rfl, rfl, h1, r1⟩ := trodAll_cons r0
  obtain ⟨rfl, rfl, rfl⟩ := trodAll_nil r1
  obtain rfl : args = #[v0, v1] := by cases args; simp_all
  obtain ⟨rfl, rfl⟩ := trodVars_none hV
  have k0 := h0
  have lt0 : ∀ x ∈ p0, x.block < W.heap.size := by obtain ⟨m, hm⟩ := k0; exact DataW.trod_lt m _ _ _ hm
  obtain ⟨D0, x01, c01, x02, c02, x03, c03, rfl, i0, w0⟩ := open_inode (hval 0 56 v0 rfl rfl) h0
  have k1 := h1
  have lt1 : ∀ x ∈ p1, x.block < W.heap.size := by obtain ⟨m, hm⟩ := k1; exact DataW.trod_lt m _ _ _ hm
  obtain ⟨D1, x11, c11, x12, c12, x13, c13, rfl, i1, w1⟩ := open_inode (hval 1 56 v1 rfl rfl) h1
  clear hA0 hval0
  refine (walk D0 x01 c01 x02 c02 x03 c03 D1 x11 c11 x12 c12 x13 c13 W i0 w0 i1 w1).mono fun e W' ⟨he, bel⟩ => ?_
  subst he
  exact ⟨_, rfl, _, _, _, [], _, [], hW', trodAll_mk1 (shut_bool Try.underlying4 _), (trodAll_cons_mk (Below.trod laidOut (by kernel_rfl) (of_decide_eq_true (by kernel_rfl)) k0 bel lt0) (trodAll_cons_mk (Below.trod laidOut (by kernel_rfl) (of_decide_eq_true (by kernel_rfl)) k1 bel lt1) trodAll_mk0)), rfl, bel.frame _, fun h => by cases h⟩

theorem over : Rows.fnExactSameInodeRow.holds Try.pinned (OpenSpec.ofChange Rows.fnExactSameInodeSpec) :=
  OpenClaim.holds_of_wide 11 Try.f11 rfl rfl rfl rfl rfl rfl rfl ⟨rfl, rfl, rfl, rfl, rfl⟩ rfl rfl rfl rfl rfl (by kernel_rfl) Try.func11 (by kernel_rfl)
    (of_decide_eq_true (by kernel_rfl)) (by unfold Func.isWrapper; first | (rw [if_pos (by decide +kernel)]; kernel_rfl) | (rw [if_neg (by decide +kernel)]; exact ⟨rfl, rfl⟩))
    (fun os started H enc _ => lifted os started H enc)

/-- ████ THE STATEMENT ████ -/
theorem proved : Rows.FnExactSameInodeSaid := over
#print axioms proved
end Go.Proofs.Ytbidiicccfkanaa.fnExactSameInode
