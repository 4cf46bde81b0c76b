/-
  At every argument SameFs answers as its model; it writes into no argument.
  The frame is the one that the guide's own program writes for a law over one []byte, turned to this law's parameters.
-/
import Derived.Test.YtfjlemnohjnkhaaRows
import Derived.Test.YtfjlemnohjnkhaaSzFs
import Derived.Test.YtfjlemnohjnkhaaEqFs
import Derived.Test.YtfjlemnohjnkhaaToFs
import Derived.Test.YtfjlemnohjnkhaaFsOpen
import Derived.Test.YtfjlemnohjnkhaaSameF
import Derived.Test.YtfjlemnohjnkhaaTabW
import Derived.WalkKit
import Derived.ProofKit
import Derived.OpenShut
import Derived.ShutString
import Derived.ChangeOld
import Derived.Below
namespace Go.Proofs.Ytfjlemnohjnkhaa.fnExactSameFs
open Go.ChangeShapes Go.WideShapes Go.ChangeAt Go.RowKit
open Go.ChangeMaps (open_string shut_string)
set_option linter.unusedVariables false

theorem own : ownKnob Try.prog.godebug = none := by kernel_rfl
theorem laidOut : laidOutB Try.prog = true := by kernel_rfl

/-! ### STEP 1: THE WALK: the Go text returns true, AND WRITES NOTHING THAT WAS THERE: 'Below w.heap.size w w'' (Derived/Below.lean: '.refl', '.alloc', '.drew', '.setCell' at a new block, '.trans'). Open each 'IsRow' by 'rcases' AHEAD of 'go_enter'; part every test ahead of the walk. -/
set_option maxRecDepth 100000 in
set_option maxHeartbeats 8000000 in
theorem walk (a : Option Addr) (cap : Nat) (nx : Int) (rs : List VolR) (a' : Option Addr) (cap' : Nat) (ny : Int) (rs' : List VolR) (w : World) (hm : rs.length ≤ maxLen) (hi : ∀ r ∈ rs, VolIn r) (hr : RdVo w a rs) (hm' : rs'.length ≤ maxLen) (hi' : ∀ r ∈ rs', VolIn r) (hr' : RdVo w a' rs') :
    Calls Try.prog 6 #[.agg #[.slice a rs.length cap, .int .i64 nx], .agg #[.slice a' rs'.length cap', .int .i64 ny]] w fun e w' => e = .returned (.bool true) ∧ Below w.heap.size w w' := by
  obtain ⟨n, hn⟩ : ∃ n, rs.length = n := ⟨_, rfl⟩
  obtain ⟨m, hmm⟩ : ∃ n, rs'.length = n := ⟨_, rfl⟩
  rw [hn] at hm ⊢
  rw [hmm] at hm' ⊢
  have B0 : Below w.heap.size w ((w.alloc (.cells #[.slice a n cap, .int .i64 nx] 31)).alloc (.cells #[.slice a' m cap', .int .i64 ny] 31)) := ((Below.refl _ w).alloc (Nat.le_refl _) _).alloc (by simp) _
  have z0 : BoxT ((w.alloc (.cells #[.slice a n cap, .int .i64 nx] 31)).alloc (.cells #[.slice a' m cap', .int .i64 ny] 31)) w.heap.size 31 a n cap nx := (BoxT.new w 31 a n cap nx).keep ((Below.refl _ _).alloc (Nat.le_refl _) _)
  have v0 : BoxT ((w.alloc (.cells #[.slice a n cap, .int .i64 nx] 31)).alloc (.cells #[.slice a' m cap', .int .i64 ny] 31)) (w.heap.size + 1) 31 a' m cap' ny := by
    have := BoxT.new (w.alloc (.cells #[.slice a n cap, .int .i64 nx] 31)) 31 a' m cap' ny
    simp only [World.size_alloc] at this
    exact this
  go_enter Try.func6, Try.ntmps6
  go_wp2_with fail
  obtain ⟨W0, hW0⟩ : ∃ W, (w.alloc (.cells #[.slice a n cap, .int .i64 nx] 31)).alloc (.cells #[.slice a' m cap', .int .i64 ny] 31) = W := ⟨_, rfl⟩
  rw [hW0] at B0 z0 v0 ⊢
  clear hW0
  refine (szFs_w a n cap 1048576 nx rs W0 hn hm (by omega) hi (hr.keep B0)).mono ?_
  rintro e w1 ⟨hsz, b1⟩
  have B1 := B0.trans (b1.mono B0.size)
  have z1 := z0.keep b1
  have v1 := v0.keep b1
  rcases hsz with rfl | ⟨x, hx, rfl, hn1, hsm⟩
  · go_wp2
    go_ret
    exact ⟨rfl, B1⟩
  have hx0 : ¬ (x : Int) < 0 := by omega
  obtain ⟨q0, q1⟩ := v1.two
  clear B0 z0 v0 b1
  go_wp2_with fail
  refine (szFs_w a' m cap' x ny rs' w1 hmm hm' (by omega) hi' (hr'.keep B1)).mono ?_
  rintro e w2 ⟨hsz, b2⟩
  have B2 := B1.trans (b2.mono B1.size)
  have z2 := z1.keep b2
  have v2 := v1.keep b2
  clear q0 q1
  rcases hsz with rfl | ⟨x', hx', rfl, hm1, hsm'⟩
  · go_wp2
    go_ret
    exact ⟨rfl, B2⟩
  have hx0' : ¬ (x' : Int) < 0 := by omega
  clear hi hi' hm hm'
  obtain ⟨q0, q1⟩ := z2.two
  obtain ⟨p0, p1⟩ := v2.two
  have r2 := hr.keep B2.drew
  have s2 := hr'.keep B2.drew
  have z2d := z2.keep (Below.refl w2.heap.size w2).drew
  have v2d := v2.keep (Below.refl w2.heap.size w2).drew
  have hbs2 := B2.size
  have hsd : w2.drew.heap.size = w2.heap.size := rfl
  obtain ⟨G0, hG0⟩ : ∃ G, w.heap.size = G := ⟨_, rfl⟩
  rw [hG0] at z2 v2 z2d v2d q0 q1 p0 p1 ⊢
  clear B1 z1 v1 b2
  obtain ⟨R, hR⟩ : ∃ R, sameFsOf nx ny (rs.map VolR.D) (rs'.map VolR.D) = R := ⟨_, rfl⟩
  have HR : Hid _ := hR
  have HS : Hid _ := hsm
  have HS' : Hid _ := hsm'
  clear hR hsm hsm'
  have CA : Hid _ := fun (W : World) (h : RdVo W a rs) => toFsQ a n cap nx rs W hn hn1 HS.out h
  have CB : Hid _ := fun (W : World) (h : RdVo W a' rs') => toFsQ a' m cap' ny rs' W hmm hm1 HS'.out h
  have cS : ∀ (W : World) (B g B' g' : Nat) (ts ts' : List VolR), FsQ W B g n rs ts → FsQ W B' g' m rs' ts' → Calls Try.prog 18 #[.agg #[.slice (some ⟨g, 0, none⟩) n n, .int .i64 nx], .agg #[.slice (some ⟨g', 0, none⟩) m m, .int .i64 ny]] W fun e w' => e = .returned (.bool R) ∧ Below W.heap.size W w' := fun W B g B' g' ts ts' h h' => by
    have := sameFsS (some ⟨g, 0, none⟩) (some ⟨g', 0, none⟩) n m n m nx ny ts ts' W h.tlen h'.tlen (by omega) (by omega) (h.small HS.out) (h'.small HS'.out) h.rd h'.rd
    rw [h.cpd.1, h'.cpd.1, HR.out] at this
    exact this
  have cI : ∀ (W : World) (B g B' g' : Nat) (ts ts' : List VolR), FsQ W B g n rs ts → FsQ W B' g' m rs' ts' → Calls Try.prog 19 #[.agg #[.slice (some ⟨g, 0, none⟩) n n, .int .i64 nx], .agg #[.slice (some ⟨g', 0, none⟩) m m, .int .i64 ny]] W fun e w' => e = .returned (.bool R) ∧ Below W.heap.size W w' := fun W B g B' g' ts ts' h h' => by
    have := sameFsI (some ⟨g, 0, none⟩) (some ⟨g', 0, none⟩) n m n m nx ny ts ts' W h.tlen h'.tlen (by omega) (by omega) (h.small HS.out) (h'.small HS'.out) h.rd h'.rd
    rw [h.cpd.1, h'.cpd.1, HR.out] at this
    exact this
  have CS : Hid _ := cS
  have CI : Hid _ := cI
  clear cS cI
  have HRA : Hid _ := hr
  have HRB : Hid _ := hr'
  clear hr hr' hn hmm
  go_upto_region 8 with fail
  go_cut [6] (fun s wx => s = .bool R ∧ Below w2.heap.size w2 wx)
  case first =>
    go_region_with (first
      | (go_at_call 14; (with_reducible refine (CA.out w2.drew r2).mono ?_); rintro e wA ⟨gA, tA, rfl, qA, b7⟩; have s7 := s2.keep b7; obtain ⟨t0, t1⟩ := (v2d.keep b7).two)
      | (go_at_call 14; (with_reducible refine (CB.out wA s7).mono ?_); rintro e wB ⟨gB, tB, rfl, qB, b8⟩; have qA8 := qA.keep b8; have qB8 := qB; have b78 := b7.trans (b8.mono b7.size))
      | (go_at_call 14; (with_reducible refine (CB.out w2.drew s2).mono ?_); rintro e wC ⟨gB, tB, rfl, qB, b7⟩; have s7' := r2.keep b7; obtain ⟨t0, t1⟩ := (z2d.keep b7).two)
      | (go_at_call 14; (with_reducible refine (CA.out wC s7').mono ?_); rintro e wB ⟨gA, tA, rfl, qA, b8⟩; have qB8 := qB.keep b8; have qA8 := qA; have b78 := b7.trans (b8.mono b7.size))
      | (go_at_call 18; (with_reducible refine (CS.out wB _ gA _ gB tA tB qA8 qB8).mono ?_); rintro e w9 ⟨rfl, b9⟩))
    all_goals (go_wp2_with fail; go_meet; exact ⟨rfl, (Below.refl w2.heap.size w2).drew.trans (b78.trans (b9.mono b78.size))⟩)
  case rest =>
  obtain ⟨rfl, b3⟩ := hcut
  obtain ⟨w3, hwc⟩ : ∃ W, W = wc := ⟨_, rfl⟩
  subst hwc
  have B3 := B2.trans (b3.mono hbs2)
  have z3 := z2.keep b3
  have v3 := v2.keep b3
  clear q0 q1 p0 p1 r2 s2 z2d v2d
  obtain ⟨q0, q1⟩ := z3.two
  go_wp2_with fail
  refine (CA.out w3 (RdVo.keep HRA.out B3)).mono ?_
  rintro e w4 ⟨gA, tA, rfl, qA, b4⟩
  have B4 := B3.trans (b4.mono B3.size)
  have z4 := z3.keep b4
  have v4 := v3.keep b4
  clear q0 q1 z2 v2 z3 v3 B2 b3 b4
  obtain ⟨p0, p1⟩ := v4.two
  have b5 : Below w4.heap.size w4 (w4.alloc (.cells #[.slice (some ⟨gA, 0, none⟩) n n, .int .i64 nx] 24)) := (Below.refl _ w4).alloc (Nat.le_refl _) _
  have m5 := BoxT.new w4 24 (some ⟨gA, 0, none⟩) n n nx
  have hlt4 := v4.lt
  go_wp2_with fail
  obtain ⟨W5, hW5⟩ : ∃ W, w4.alloc (.cells #[.slice (some ⟨gA, 0, none⟩) n n, .int .i64 nx] 24) = W := ⟨_, rfl⟩
  rw [hW5] at b5 m5 ⊢
  clear hW5 p0 p1
  obtain ⟨G4, hG4⟩ : ∃ G, w4.heap.size = G := ⟨_, rfl⟩
  rw [hG4] at m5 ⊢
  have B5 := B4.trans (b5.mono B4.size)
  have z5 := z4.keep b5
  have v5 := v4.keep b5
  have qA5 := qA.keep b5
  refine (CB.out W5 (RdVo.keep HRB.out B5)).mono ?_
  rintro e w6 ⟨gB, tB, rfl, qB, b6⟩
  have B6 := B5.trans (b6.mono B5.size)
  have z6 := z5.keep b6
  have v6 := v5.keep b6
  have m6 := m5.keep b6
  have qA6 := qA5.keep b6
  have b7 : Below w6.heap.size w6 (w6.alloc (.cells #[.slice (some ⟨gB, 0, none⟩) m m, .int .i64 ny] 24)) := (Below.refl _ w6).alloc (Nat.le_refl _) _
  have n7 := BoxT.new w6 24 (some ⟨gB, 0, none⟩) m m ny
  have m7 := m6.keep b7
  obtain ⟨q0, q1⟩ := m7.two
  clear z4 v4 z5 v5 m5 qA qA5 b5 b6 B4 B5
  go_wp2_with fail
  obtain ⟨W7, hW7⟩ : ∃ W, w6.alloc (.cells #[.slice (some ⟨gB, 0, none⟩) m m, .int .i64 ny] 24) = W := ⟨_, rfl⟩
  rw [hW7] at b7 n7 m7 ⊢
  clear hW7 q0 q1
  obtain ⟨G6, hG6⟩ : ∃ G, w6.heap.size = G := ⟨_, rfl⟩
  rw [hG6] at n7 ⊢
  have B7 := B6.trans (b7.mono B6.size)
  have z7 := z6.keep b7
  have v7 := v6.keep b7
  have qA7 := qA6.keep b7
  have qB7 := qB.keep b7
  refine (CI.out W7 _ gA _ gB tA tB qA7 qB7).mono ?_
  rintro e w8 ⟨rfl, b8⟩
  have B8 := B7.trans (b8.mono B7.size)
  have z8 := z7.keep b8
  have v8 := v7.keep b8
  have m8 := m7.keep b8
  have n8 := n7.keep b8
  have qA8 := qA7.keep b8
  have qB8 := qB7.keep b8
  clear z6 v6 m6 n7 m7 z7 v7 qA6 qA7 qB qB7 b7 b8 B6 B7
  obtain ⟨q0, q1⟩ := z8.two
  obtain ⟨p0, p1⟩ := m8.two
  have r8 := RdVo.keep HRA.out B8.drew
  have qA8d := qA8.keep (Below.refl w8.heap.size w8).drew
  have m8d := m8.keep (Below.refl w8.heap.size w8).drew
  have hbs8 := B8.size
  have hRR : (R != R) = false := by simp
  go_upto_region 14 with fail
  go_cut [39] (fun s wx => s = .bool false ∧ Below w8.heap.size w8 wx)
  case first =>
    go_region_with (first
      | (go_at_call 14; (with_reducible refine (CA.out _ r8).mono ?_); rintro e wA ⟨gC, tC, rfl, qC, b9⟩; have qAA := qA8d.keep b9; obtain ⟨t0, t1⟩ := (m8d.keep b9).two)
      | (go_at_call 9; refine (eqFsQ _ _ gA gC n n n nx rs tA tC _ hn1 HS.out qAA qC).mono ?_; rintro e wB ⟨rfl, b10⟩))
    all_goals (go_wp2_with fail; go_meet; exact ⟨rfl, (Below.refl w8.heap.size w8).drew.trans (b9.trans (b10.mono b9.size))⟩)
  case rest =>
  obtain ⟨rfl, b9⟩ := hcut
  obtain ⟨w9, hwc⟩ : ∃ W, W = wc := ⟨_, rfl⟩
  subst hwc
  have B9 := B8.trans (b9.mono hbs8)
  have v9 := v8.keep b9
  have n9 := n8.keep b9
  have qB9 := qB8.keep b9
  clear q0 q1 p0 p1 r8 qA8d m8d z8 v8 m8 n8 qA8 qB8 b9 B8
  obtain ⟨q0, q1⟩ := v9.two
  obtain ⟨p0, p1⟩ := n9.two
  have r9 := RdVo.keep HRB.out B9.drew
  have qB9d := qB9.keep (Below.refl _ _).drew
  have n9d := n9.keep (Below.refl _ _).drew
  have hbs9 := B9.size
  go_wp2
  go_region_with (first
    | (go_at_call 14; (with_reducible refine (CB.out _ r9).mono ?_); rintro e wA ⟨gC, tC, rfl, qC, b10⟩; have qBA := qB9d.keep b10; obtain ⟨t0, t1⟩ := (n9d.keep b10).two)
    | (go_at_call 9; refine (eqFsQ _ _ gB gC m m m ny rs' tB tC _ hm1 HS'.out qBA qC).mono ?_; rintro e wB ⟨rfl, b11⟩))
  all_goals go_wp2
  all_goals go_ret
  all_goals exact ⟨rfl, (by first | exact B9.drew.trans ((b10.trans (b11.mono b10.size)).mono hbs9) | (rw [← hG0]; exact B9.drew.trans ((b10.trans (b11.mono b10.size)).mono hbs9)))⟩

/-! ### THE ROW's STEP: WRITTEN OUT: LEAVE IT -/
set_option maxRecDepth 100000 in
theorem lifted (os : Os) (started : os.Started) (H : Type) (enc : TypeId × Value → H) :
    ReturnsInHanded {} Try.checked os 6 .any (Rows.fnExactSameFsSpec.pre6 enc Try.prog Try.f6 Rows.fnExactSameFsRow.domain false) (Rows.fnExactSameFsSpec.post enc Try.prog Try.f6 false true false false) := by
  refine returnsInHanded_of_change (C := Try.checked) own started (by kernel_rfl) Try.func6
    (ChangeSpec.witness6 (enc := enc) (C := Try.checked) false ⟨#[], #[.agg #[.slice none 0 0, .int .i64 0], .agg #[.slice none 0 0, .int .i64 0]], []⟩ 8 (by kernel_rfl) (by kernel_rfl) (by kernel_rfl) (by kernel_rfl)) ?_
  intro W base args ds gs before hval0 hW hcnd _
  have hval : ∀ (j : Nat) t v, Try.f6.params[j]? = some t → args[j]? = some v → Value.okWide Try.prog W .any base t v := hval0
  have hW' := hW
  obtain ⟨p, q, hA0, hV, rfl, hfz, hnd⟩ := hW
  have hA : DataW.TrodAll enc Try.prog W 0 (fun _ => true) true Try.f6.params.toList args.toList ds p := hA0
  rw [Try.params6] at hA hval
  obtain ⟨v0, vs0, d0, ds0, p0, q0, hargs, rfl, rfl, h0, r0⟩ := trodAll_cons hA
  obtain ⟨v1, vs1, d1, ds1, p1, q1, rfl, rfl, rfl, h1, r1⟩ := trodAll_cons r0
  obtain ⟨rfl, rfl, rfl⟩ := trodAll_nil r1
  obtain rfl : args = #[v0, v1] := by cases args; simp_all
  obtain ⟨rfl, rfl⟩ := trodVars_none hV
  have k0 := h0
  have lt0 : ∀ x ∈ p0, x.block < W.heap.size := by obtain ⟨m, hm⟩ := k0; exact DataW.trod_lt m _ _ _ hm
  obtain ⟨x0, c0, n0, rs0, rfl, wn0, m0, i0, w0⟩ := open_fs (hval 0 31 v0 rfl rfl) h0
  have k1 := h1
  have lt1 : ∀ x ∈ p1, x.block < W.heap.size := by obtain ⟨m, hm⟩ := k1; exact DataW.trod_lt m _ _ _ hm
  obtain ⟨x1, c1, n1, rs1, rfl, wn1, m1, i1, w1⟩ := open_fs (hval 1 31 v1 rfl rfl) h1
  clear hA0 hval0
  refine (walk x0 c0 n0 rs0 x1 c1 n1 rs1 W m0 i0 w0 m1 i1 w1).mono fun e W' ⟨he, bel⟩ => ?_
  subst he
  exact ⟨_, rfl, _, _, _, [], _, [], hW', trodAll_mk1 (shut_bool Try.underlying4 _), (trodAll_cons_mk (Below.trod laidOut (by kernel_rfl) (of_decide_eq_true (by kernel_rfl)) k0 bel lt0) (trodAll_cons_mk (Below.trod laidOut (by kernel_rfl) (of_decide_eq_true (by kernel_rfl)) k1 bel lt1) trodAll_mk0)), rfl, bel.frame _, fun h => by cases h⟩

theorem over : Rows.fnExactSameFsRow.holds Try.pinned (OpenSpec.ofChange Rows.fnExactSameFsSpec) :=
  OpenClaim.holds_of_wide 6 Try.f6 rfl rfl rfl rfl rfl rfl rfl ⟨rfl, rfl, rfl, rfl, rfl⟩ rfl rfl rfl rfl rfl (by kernel_rfl) Try.func6 (by kernel_rfl)
    (of_decide_eq_true (by kernel_rfl)) (by unfold Func.isWrapper; first | (rw [if_pos (by decide +kernel)]; kernel_rfl) | (rw [if_neg (by decide +kernel)]; exact ⟨rfl, rfl⟩))
    (fun os started H enc _ => lifted os started H enc)

/-- ████ THE STATEMENT ████ -/
theorem proved : Rows.FnExactSameFsSaid := over
#print axioms proved
end Go.Proofs.Ytfjlemnohjnkhaa.fnExactSameFs
