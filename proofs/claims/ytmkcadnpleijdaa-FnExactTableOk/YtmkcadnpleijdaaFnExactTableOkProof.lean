/-
  At every table both TableOk functions answer the same.
  The frame is the one that the guide's own program writes for a law over one []byte, turned to this law's parameters.
-/
import Derived.Test.YtmkcadnpleijdaaRows
import Derived.Test.YtmkcadnpleijdaaTbOQ
import Derived.Test.YtmkcadnpleijdaaTbGQ
import Derived.Test.YtmkcadnpleijdaaTbTQ
import Derived.WalkKit
import Derived.ProofKit
import Derived.OpenShut
import Derived.ShutString
import Derived.ChangeOld
import Derived.Below
namespace Go.Proofs.Ytmkcadnpleijdaa.fnExactTableOk
open Go.ChangeShapes Go.WideShapes Go.ChangeAt Go.RowKit
open Go.ChangeMaps (open_string shut_string)
set_option linter.unusedVariables false

theorem own : ownKnob Try.prog.godebug = none := by kernel_rfl
theorem laidOut : laidOutB Try.prog = true := by kernel_rfl

/-! ### STEP 1: THE WALK: the Go text returns true, AND WRITES NOTHING THAT WAS THERE: 'Below w.heap.size w w'' (Derived/Below.lean: '.refl', '.alloc', '.drew', '.setCell' at a new block, '.trans'). Open each 'IsRow' by 'rcases' AHEAD of 'go_enter'; part every test ahead of the walk. -/
set_option maxRecDepth 100000 in
set_option maxHeartbeats 4000000 in
theorem walk (nx : Int) (a : Option Addr) (c : Nat) (ps : List RwD) (w : World) (hwn : (Lit.int .i64 nx).wf = true) (hi : ps.length ≤ maxLen) (hin : ∀ r ∈ ps, r.name.size ≤ maxLen) (hr : RdRw w a ps) :
    Calls Try.prog 4 #[.agg #[.int .i64 nx, .slice a ps.length c]] w fun e w' => e = .returned (.bool true) ∧ Below w.heap.size w w' := by
  obtain ⟨n, hn⟩ : ∃ n, ps.length = n := ⟨_, rfl⟩
  rw [hn] at hi ⊢
  have cZ := fun (W : World) (hB : Below w.heap.size w W) => szTable_any nx a n c ps W hn hi hin (hr.keep hB)
  have cT := fun (W : World) (hB : Below w.heap.size w W) (hs : n ≤ 1048576 ∧ ∀ r ∈ ps, r.name.size ≤ 1048576) => toTable_any nx a n c ps W ⟨hn, hs.1, hs.2, hr.keep hB⟩
  have cE := fun (W : World) (a b : Option Addr) (c d : Nat) (h1 : WR W a n ps) (h2 : WR W b n ps) => eqTable_same nx a b n c d ps W h1 h2
  have cS := fun (W : World) (a : Option Addr) (c : Nat) (h : WR W a n ps) => tableOkS nx a n c ps W h
  have cI := fun (W : World) (a : Option Addr) (c : Nat) (h : WR W a n ps) => tableOkI nx a n c ps W h
  generalize tbB nx ps = b at cS cI
  have hbb : (b != b) = false := by simp
  have B0 : Below w.heap.size w (w.alloc (.cells #[.int .i64 nx, .slice a n c] 38)) := (Below.refl _ w).alloc (Nat.le_refl _) _
  have z0 := Blk.new w 38 #[.int .i64 nx, .slice a n c]
  clear hr hi hin hwn
  go_enter Try.func4, Try.ntmps4
  go_wp2_with fail
  obtain ⟨W0, hW0⟩ : ∃ W, w.alloc (.cells #[.int .i64 nx, .slice a n c] 38) = W := ⟨_, rfl⟩
  have hs0 : W0.heap.size = w.heap.size + 1 := by rw [← hW0]; simp
  rw [hW0] at B0 z0 ⊢
  clear hW0
  refine (cZ W0 B0).mono ?_
  rintro e w1 ⟨hsz, b1⟩
  have B1 := B0.trans (b1.mono B0.size)
  rcases hsz with rfl | ⟨x0, hx, rfl, hnn⟩
  · go_wp2
    go_ret
    exact ⟨rfl, B1⟩
  have hx0 : ¬ (x0 : Int) < 0 := by omega
  obtain ⟨q0, q1⟩ := (z0.keep b1).duo
  go_wp2_with fail
  refine (cT w1 B1 hnn).mono ?_
  rintro e w2 ⟨g1, rfl, hg1, o1, b2⟩
  have C2 := b1.trans (b2.mono b1.size)
  clear q0 q1
  go_wp2_with fail
  refine (cS w2 _ _ (o1.wr hnn.1 hnn.2)).mono ?_
  rintro e w3 ⟨rfl, b3⟩
  have C3 := C2.trans (b3.mono C2.size)
  have B3 := B0.trans (C3.mono B0.size)
  have hs3 := C3.size
  obtain ⟨q0, q1⟩ := (z0.keep C3).duo
  clear o1 b2 b3 C2 B1 b1
  go_wp2_with fail
  refine (cT w3 B3 hnn).mono ?_
  rintro e w4 ⟨g, rfl, hg, o4, b4⟩
  have b5 : Below w4.heap.size w4 (w4.alloc (.cells #[.int .i64 nx, .slice (some ⟨g, 0, none⟩) n n] 26)) := (Below.refl _ w4).alloc (Nat.le_refl _) _
  have y5 := Blk.new w4 26 #[.int .i64 nx, .slice (some ⟨g, 0, none⟩) n n]
  clear q0 q1
  go_wp2_with fail
  obtain ⟨W5, hW5⟩ : ∃ W, w4.alloc (.cells #[.int .i64 nx, .slice (some ⟨g, 0, none⟩) n n] 26) = W := ⟨_, rfl⟩
  rw [hW5] at b5 y5 ⊢
  clear hW5
  have D5 := b4.trans (b5.mono b4.size)
  have hs5 := D5.size
  have o5 : OwnRw W5 (.slice (some ⟨g, 0, none⟩) n n) n ps := OwnE.keep o4 b5
  have hg5 : g < W5.heap.size := OwnE.lt o5 (g := g) rfl
  obtain ⟨G, hG⟩ : ∃ G, w4.heap.size = G := ⟨_, rfl⟩
  rw [hG] at y5 ⊢
  clear o4 b4 b5
  refine (cI W5 _ _ (o5.wr hnn.1 hnn.2)).mono ?_
  rintro e w6 ⟨rfl, b6⟩
  have D6 := D5.trans (b6.mono D5.size)
  have o6 : OwnRw w6 (.slice (some ⟨g, 0, none⟩) n n) n ps := OwnE.keep o5 b6
  have y6 := y5.keep b6
  clear o5 y5
  have D7 := D6
  have C7 := C3.trans (D7.mono C3.size)
  have B7 := B0.trans (C7.mono B0.size)
  obtain ⟨w7, hw7⟩ : ∃ W, W = w6 := ⟨_, rfl⟩
  subst hw7
  have b7 := Below.refl w7.heap.size w7
  have o7 : OwnRw w7 (.slice (some ⟨g, 0, none⟩) n n) n ps := OwnE.keep o6 b7
  have y7 : Blk w7 G 26 #[.int .i64 nx, .slice (some ⟨g, 0, none⟩) n n] := y6.keep b7
  have B7d := B7.drew
  have r7d : Hid (WR w7.drew (some ⟨g, 0, none⟩) n ps) := (o7.wr hnn.1 hnn.2).keep (Below.refl w7.heap.size w7).drew
  have y7d : Blk w7.drew G 26 #[.int .i64 nx, .slice (some ⟨g, 0, none⟩) n n] := y7.keep (Below.refl w7.heap.size w7).drew
  obtain ⟨q0, q1⟩ := (z0.keep C7).duo
  obtain ⟨p0, p1⟩ := y7.duo
  clear o6 y6 b6 b7
  go_upto_region 10 with fail
  go_region_with (first
      | (go_at_call 17; refine (cT _ B7d hnn).mono ?_; rintro e wA ⟨k1, rfl, hk1, oC, b9⟩; have rA : Hid (WR wA (some ⟨g, 0, none⟩) n ps) := r7d.out.keep b9; have rC : Hid (WR wA (some ⟨k1, 0, none⟩) n ps) := OwnRw.wr oC hnn.1 hnn.2; obtain ⟨t0, t1⟩ := (y7d.keep b9).duo)
      | (go_at_call 18; refine (cE _ _ _ _ _ rA.out rC.out).mono ?_; rintro e wB ⟨rfl, b10⟩))
  all_goals go_wp2
  all_goals go_ret
  all_goals (have t9 := B7d.trans (b9.mono B7d.size); exact ⟨rfl, t9.trans (b10.mono t9.size)⟩)

/-! ### THE ROW's STEP: WRITTEN OUT: LEAVE IT -/
set_option maxRecDepth 100000 in
theorem lifted (os : Os) (started : os.Started) (H : Type) (enc : TypeId × Value → H) :
    ReturnsInHanded {} Try.checked os 4 .any (Rows.fnExactTableOkSpec.pre6 enc Try.prog Try.f4 Rows.fnExactTableOkRow.domain false) (Rows.fnExactTableOkSpec.post enc Try.prog Try.f4 false true false false) := by
  refine returnsInHanded_of_change (C := Try.checked) own started (by kernel_rfl) Try.func4
    (ChangeSpec.witness6 (enc := enc) (C := Try.checked) false ⟨#[], #[.agg #[.int .i64 0, .slice none 0 0]], []⟩ 8 (by kernel_rfl) (by kernel_rfl) (by kernel_rfl) (by kernel_rfl)) ?_
  intro W base args ds gs before hval0 hW hcnd _
  have hval : ∀ (j : Nat) t v, Try.f4.params[j]? = some t → args[j]? = some v → Value.okWide Try.prog W .any base t v := hval0
  have hW' := hW
  obtain ⟨p, q, hA0, hV, rfl, hfz, hnd⟩ := hW
  have hA : DataW.TrodAll enc Try.prog W 0 (fun _ => true) true Try.f4.params.toList args.toList ds p := hA0
  rw [Try.params4] at hA hval
  obtain ⟨v0, vs0, d0, ds0, p0, q0, hargs, rfl, rfl, h0, r0⟩ := trodAll_cons hA
  obtain ⟨rfl, rfl, rfl⟩ := trodAll_nil r0
  obtain rfl : args = #[v0] := by cases args; simp_all
  obtain ⟨rfl, rfl⟩ := trodVars_none hV
  have k0 := h0
  have lt0 : ∀ x ∈ p0, x.block < W.heap.size := by obtain ⟨m, hm⟩ := k0; exact DataW.trod_lt m _ _ _ hm
  obtain ⟨n0, x0, c0, rs0, rfl, wn0, m0, i0, w0⟩ := open_table (hval 0 38 v0 rfl rfl) h0
  clear hA0 hval0
  refine (walk n0 x0 c0 rs0 W wn0 m0 i0 w0).mono fun e W' ⟨he, bel⟩ => ?_
  subst he
  exact ⟨_, rfl, _, _, _, [], _, [], hW', trodAll_mk1 (shut_bool Try.underlying4 _), (trodAll_cons_mk (Below.trod laidOut (by kernel_rfl) (of_decide_eq_true (by kernel_rfl)) k0 bel lt0) trodAll_mk0), rfl, bel.frame _, fun h => by cases h⟩

theorem over : Rows.fnExactTableOkRow.holds Try.pinned (OpenSpec.ofChange Rows.fnExactTableOkSpec) :=
  OpenClaim.holds_of_wide 4 Try.f4 rfl rfl rfl rfl rfl rfl rfl ⟨rfl, rfl, rfl, rfl, rfl⟩ rfl rfl rfl rfl rfl (by kernel_rfl) Try.func4 (by kernel_rfl)
    (of_decide_eq_true (by kernel_rfl)) (by unfold Func.isWrapper; first | (rw [if_pos (by decide +kernel)]; kernel_rfl) | (rw [if_neg (by decide +kernel)]; exact ⟨rfl, rfl⟩))
    (fun os started H enc _ => lifted os started H enc)

/-- ████ THE STATEMENT ████ -/
theorem proved : Rows.FnExactTableOkSaid := over
#print axioms proved
end Go.Proofs.Ytmkcadnpleijdaa.fnExactTableOk
