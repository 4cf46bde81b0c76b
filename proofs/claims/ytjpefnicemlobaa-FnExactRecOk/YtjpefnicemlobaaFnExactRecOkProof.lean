/-
  At every record both RecOk functions answer the same.
  The frame is the one that the guide's own program writes for a law over one []byte, turned to this law's parameters.
-/
import Derived.Test.YtjpefnicemlobaaRows
import Derived.Test.YtjpefnicemlobaaRecM
import Derived.WalkKit
import Derived.ProofKit
import Derived.OpenShut
import Derived.ShutString
import Derived.ChangeOld
import Derived.Below
namespace Go.Proofs.Ytjpefnicemlobaa.fnExactRecOk
open Go.ChangeShapes Go.WideShapes Go.ChangeAt Go.RowKit
open Go.ChangeMaps (open_string shut_string)
set_option linter.unusedVariables false

theorem own : ownKnob Try.prog.godebug = none := by kernel_rfl
theorem laidOut : laidOutB Try.prog = true := by kernel_rfl

/-! ### STEP 1: THE WALK: the Go text returns true, AND WRITES NOTHING THAT WAS THERE: 'Below w.heap.size w w'' (Derived/Below.lean: '.refl', '.alloc', '.drew', '.setCell' at a new block, '.trans'). Open each 'IsRow' by 'rcases' AHEAD of 'go_enter'; part every test ahead of the walk. -/
set_option maxRecDepth 100000 in
set_option maxHeartbeats 4000000 in
theorem walk (D : RecD) (a : Option Addr) (c : Nat) (w : World) (hi : RecIn D) (hr : RecRd w D a) :
    Calls Try.prog 5 #[.agg (recC D a c)] w fun e w' => e = .returned (.bool true) ∧ Below w.heap.size w w' := by
  have cZ := fun (W : World) => szRec_any D a c W hi
  have cT := fun (W : World) (hB : Below w.heap.size w W) (hs : D.body.length ≤ 1048576) => toRec_any D a c W hs (hr.keep hB)
  have cS := fun (W : World) (a : Option Addr) (c : Nat) (hm : D.body.length ≤ 4000000) => recOkS D a c W hm
  have cI := fun (W : World) (a : Option Addr) (c : Nat) (hm : D.body.length ≤ 4000000) => recOkI D a c W hm
  have cE := fun (W : World) (a b : Option Addr) (c d : Nat) (hs : D.body.length ≤ 4000000) (h1 : Rd W a D.body) (h2 : Rd W b D.body) => eqRec_same D a b c d W hs h1 h2
  have hsm : RecSmall D → D.body.length ≤ 1048576 := fun h => by exact h
  obtain ⟨kind, seq, body⟩ := D
  unfold recC at cZ cT cS cI cE ⊢
  dsimp only at cZ cT cS cI cE hsm ⊢
  obtain ⟨n, hn⟩ : ∃ n, body.length = n := ⟨_, rfl⟩
  rw [hn] at cZ cT cS cI cE hsm ⊢
  generalize recOk ⟨kind, seq, body⟩ = b at cS cI
  have B0 : Below w.heap.size w (w.alloc (.cells #[.int .i64 kind, .int .i64 seq, .slice a n c] 35)) := (Below.refl _ w).alloc (Nat.le_refl _) _
  have z0 := Blk.new w 35 #[.int .i64 kind, .int .i64 seq, .slice a n c]
  have hbb : (b != b) = false := by simp
  clear hn hr hi
  go_enter Try.func5, Try.ntmps5
  go_wp2_with fail
  obtain ⟨W0, hW0⟩ : ∃ W, w.alloc (.cells #[.int .i64 kind, .int .i64 seq, .slice a n c] 35) = W := ⟨_, rfl⟩
  rw [hW0] at B0 z0 ⊢
  clear hW0
  refine (cZ W0).mono ?_
  rintro e w1 ⟨hsz, b1⟩
  have B1 := B0.trans (b1.mono B0.size)
  have z1 := z0.keep b1
  rcases hsz with rfl | ⟨x, hx, rfl, hop⟩
  · go_wp2
    go_ret
    exact ⟨rfl, B1⟩
  have hnn := hsm hop
  have hx0 : ¬ (x : Int) < 0 := by omega
  obtain ⟨q0, q1, q2⟩ := z1.thr
  clear B0 z0 b1
  go_wp2_with fail
  refine (cT w1 B1 hnn).mono ?_
  rintro e w2 ⟨g1, rfl, hg1, o1, b2⟩
  have B2 := B1.trans (b2.mono B1.size)
  have z2 := z1.keep b2
  clear q0 q1 q2 z1
  go_wp2_with fail
  refine (cS w2 _ _ (by omega)).mono ?_
  rintro e w3 ⟨rfl, b3⟩
  have B3 := B2.trans (b3.mono B2.size)
  have z3 := z2.keep b3
  have hz3 := z3.lt
  obtain ⟨q0, q1, q2⟩ := z3.thr
  clear z2 o1
  go_wp2_with fail
  refine (cT w3 B3 hnn).mono ?_
  rintro e w4 ⟨g, rfl, hg, o4, b4⟩
  have B4 := B3.trans (b4.mono B3.size)
  have z4 := z3.keep b4
  have b5 : Below w4.heap.size w4 (w4.alloc (.cells #[.int .i64 kind, .int .i64 seq, .slice (some ⟨g, 0, none⟩) n n] 25)) := (Below.refl _ w4).alloc (Nat.le_refl _) _
  have y5 := Blk.new w4 25 #[.int .i64 kind, .int .i64 seq, .slice (some ⟨g, 0, none⟩) n n]
  clear q0 q1 q2 z3
  go_wp2_with fail
  obtain ⟨W5, hW5⟩ : ∃ W, w4.alloc (.cells #[.int .i64 kind, .int .i64 seq, .slice (some ⟨g, 0, none⟩) n n] 25) = W := ⟨_, rfl⟩
  rw [hW5] at b5 y5 ⊢
  clear hW5
  have B5 := B4.trans (b5.mono B4.size)
  have z5 := z4.keep b5
  have o5 := o4.keep b5 o4.lt
  obtain ⟨G, hG⟩ : ∃ G, w4.heap.size = G := ⟨_, rfl⟩
  rw [hG] at y5 ⊢
  refine (cI W5 _ _ (by omega)).mono ?_
  rintro e w6 ⟨rfl, b6⟩
  have B6 := B5.trans (b6.mono B5.size)
  have z6 := z5.keep b6
  have y6 := y5.keep b6
  have o6 := o5.keep b6 o5.lt
  obtain ⟨q0, q1, q2⟩ := z6.thr
  obtain ⟨p0, p1, p2⟩ := y6.thr
  have B6d := B6.drew
  have r6d : Hid (Rd w6.drew (some ⟨g, 0, none⟩) body) := o6.rd.keep (Below.refl w6.heap.size w6).drew
  have y6d := y6.keep (Below.refl w6.heap.size w6).drew
  clear z4 z5 y5 o4 o5 b4 b5
  go_upto_region 10 with fail
  go_region_with (first
    | (go_at_call 19; refine (cT _ B6d hnn).mono ?_; rintro e wA ⟨k1, rfl, hk1, oC, b9⟩; have rA : Hid (Rd wA (some ⟨g, 0, none⟩) body) := r6d.out.keep b9; have rC : Hid (Rd wA (some ⟨k1, 0, none⟩) body) := oC.rd; obtain ⟨t0, t1, t2⟩ := (y6d.keep b9).thr)
    | (go_at_call 20; refine (cE _ _ _ _ _ (by omega) rA.out rC.out).mono ?_; rintro e wB ⟨rfl, b10⟩))
  all_goals go_wp2
  all_goals go_ret
  all_goals (have t1 := B6d.trans (b9.mono B6d.size); exact ⟨rfl, t1.trans (b10.mono t1.size)⟩)

/-! ### THE ROW's STEP: WRITTEN OUT: LEAVE IT -/
set_option maxRecDepth 100000 in
theorem lifted (os : Os) (started : os.Started) (H : Type) (enc : TypeId × Value → H) :
    ReturnsInHanded {} Try.checked os 5 .any (Rows.fnExactRecOkSpec.pre6 enc Try.prog Try.f5 Rows.fnExactRecOkRow.domain false) (Rows.fnExactRecOkSpec.post enc Try.prog Try.f5 false true false false) := by
  refine returnsInHanded_of_change (C := Try.checked) own started (by kernel_rfl) Try.func5
    (ChangeSpec.witness6 (enc := enc) (C := Try.checked) false ⟨#[], #[.agg #[.int .i64 0, .int .i64 0, .slice none 0 0]], []⟩ 8 (by kernel_rfl) (by kernel_rfl) (by kernel_rfl) (by kernel_rfl)) ?_
  intro W base args ds gs before hval0 hW hcnd _
  have hval : ∀ (j : Nat) t v, Try.f5.params[j]? = some t → args[j]? = some v → Value.okWide Try.prog W .any base t v := hval0
  have hW' := hW
  obtain ⟨p, q, hA0, hV, rfl, hfz, hnd⟩ := hW
  have hA : DataW.TrodAll enc Try.prog W 0 (fun _ => true) true Try.f5.params.toList args.toList ds p := hA0
  rw [Try.params5] at hA hval
  obtain ⟨v0, vs0, d0, ds0, p0, q0, hargs, rfl, rfl, h0, r0⟩ := trodAll_cons hA
  obtain ⟨rfl, rfl, rfl⟩ := trodAll_nil r0
  obtain rfl : args = #[v0] := by cases args; simp_all
  obtain ⟨rfl, rfl⟩ := trodVars_none hV
  have k0 := h0
  have lt0 : ∀ x ∈ p0, x.block < W.heap.size := by obtain ⟨m, hm⟩ := k0; exact DataW.trod_lt m _ _ _ hm
  obtain ⟨D0, x0, c0, rfl, i0, w0⟩ := open_rec (hval 0 35 v0 rfl rfl) h0
  clear hA0 hval0
  refine (walk D0 x0 c0 W i0 w0).mono fun e W' ⟨he, bel⟩ => ?_
  subst he
  exact ⟨_, rfl, _, _, _, [], _, [], hW', trodAll_mk1 (shut_bool Try.underlying4 _), (trodAll_cons_mk (Below.trod laidOut (by kernel_rfl) (of_decide_eq_true (by kernel_rfl)) k0 bel lt0) trodAll_mk0), rfl, bel.frame _, fun h => by cases h⟩

theorem over : Rows.fnExactRecOkRow.holds Try.pinned (OpenSpec.ofChange Rows.fnExactRecOkSpec) :=
  OpenClaim.holds_of_wide 5 Try.f5 rfl rfl rfl rfl rfl rfl rfl ⟨rfl, rfl, rfl, rfl, rfl⟩ rfl rfl rfl rfl rfl (by kernel_rfl) Try.func5 (by kernel_rfl)
    (of_decide_eq_true (by kernel_rfl)) (by unfold Func.isWrapper; first | (rw [if_pos (by decide +kernel)]; kernel_rfl) | (rw [if_neg (by decide +kernel)]; exact ⟨rfl, rfl⟩))
    (fun os started H enc _ => lifted os started H enc)

/-- ████ THE STATEMENT ████ -/
theorem proved : Rows.FnExactRecOkSaid := over
#print axioms proved
end Go.Proofs.Ytjpefnicemlobaa.fnExactRecOk
