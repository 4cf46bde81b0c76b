/-
  At every argument VolNamed answers as its model; it writes into no argument.
  The frame is the one that the guide's own program writes for a law over one []byte, turned to this law's parameters.
-/
import Derived.Test.YtfjlemnohjnkhaaRows
import Derived.Test.YtfjlemnohjnkhaaSzFs
import Derived.Test.YtfjlemnohjnkhaaEqFs
import Derived.Test.YtfjlemnohjnkhaaToFs
import Derived.Test.YtfjlemnohjnkhaaFsOpen
import Derived.Test.YtfjlemnohjnkhaaVolAt
import Derived.Test.YtfjlemnohjnkhaaTabW
import Derived.WalkKit
import Derived.ProofKit
import Derived.OpenShut
import Derived.ShutString
import Derived.ChangeOld
import Derived.Below
namespace Go.Proofs.Ytfjlemnohjnkhaa.fnExactVolNamed
open Go.ChangeShapes Go.WideShapes Go.ChangeAt Go.RowKit
open Go.ChangeMaps (open_string shut_string)
set_option linter.unusedVariables false

theorem own : ownKnob Try.prog.godebug = none := by kernel_rfl
theorem laidOut : laidOutB Try.prog = true := by kernel_rfl

/-! ### STEP 1: THE WALK: the Go text returns true, AND WRITES NOTHING THAT WAS THERE: 'Below w.heap.size w w'' (Derived/Below.lean: '.refl', '.alloc', '.drew', '.setCell' at a new block, '.trans'). Open each 'IsRow' by 'rcases' AHEAD of 'go_enter'; part every test ahead of the walk. -/
set_option maxRecDepth 100000 in
set_option maxHeartbeats 8000000 in
theorem walk (a : Option Addr) (cap : Nat) (nx : Int) (rs : List VolR) (x0 : ByteArray) (w : World) (hm : rs.length ≤ maxLen) (hi : ∀ r ∈ rs, VolIn r) (hr : RdVo w a rs) (hwx : x0.size ≤ maxLen) :
    Calls Try.prog 5 #[.agg #[.slice a rs.length cap, .int .i64 nx], .string x0] w fun e w' => e = .returned (.bool true) ∧ Below w.heap.size w w' := by
  obtain ⟨n, hn⟩ : ∃ n, rs.length = n := ⟨_, rfl⟩
  rw [hn] at hm ⊢
  have B0 : Below w.heap.size w (w.alloc (.cells #[.slice a n cap, .int .i64 nx] 31)) := (Below.refl _ w).alloc (Nat.le_refl _) _
  have z0 := BoxT.new w 31 a n cap nx
  by_cases hl : 1048576 < x0.size
  · have hli : (x0.size : Int) > 1048576 := by omega
    have HB : Hid _ := B0
    clear z0
    go_enter Try.func5, Try.ntmps5
    go_wp2
    go_ret
    exact ⟨rfl, HB.out⟩
  have hli : ¬ (x0.size : Int) > 1048576 := by omega
  go_enter Try.func5, Try.ntmps5
  go_wp2_with fail
  obtain ⟨W0, hW0⟩ : ∃ W, w.alloc (.cells #[.slice a n cap, .int .i64 nx] 31) = W := ⟨_, rfl⟩
  rw [hW0] at B0 z0 ⊢
  clear hW0
  refine (szFs_w a n cap 1048576 nx rs W0 hn hm (by omega) hi (hr.keep B0)).mono ?_
  rintro e w1 ⟨hsz, b1⟩
  have B1 := B0.trans (b1.mono B0.size)
  have z1 := z0.keep b1
  rcases hsz with rfl | ⟨x, hx, rfl, hn1, hsm⟩
  · go_wp2
    go_ret
    exact ⟨rfl, B1⟩
  have hx0 : ¬ (x : Int) < 0 := by omega
  have HS : Hid _ := hsm
  have CA : Hid _ := fun (W : World) (h : RdVo W a rs) => toFsQ a n cap nx rs W hn hn1 HS.out h
  have cS : ∀ (W : World) (B g : Nat) (ts : List VolR), FsQ W B g n rs ts → Calls Try.prog 16 #[.agg #[.slice (some ⟨g, 0, none⟩) n n, .int .i64 nx], .string x0] W fun e w' => e = .returned (.int .i64 (volNm (rs.map VolR.D) x0)) ∧ Below W.heap.size W w' := fun W B g ts h => by
    have := volNmS (some ⟨g, 0, none⟩) n n nx ts x0 W h.tlen (by omega) h.rd
    rw [h.cpd.1] at this
    exact this
  have cI : ∀ (W : World) (B g : Nat) (ts : List VolR), FsQ W B g n rs ts → Calls Try.prog 17 #[.agg #[.slice (some ⟨g, 0, none⟩) n n, .int .i64 nx], .string x0] W fun e w' => e = .returned (.int .i64 (volNm (rs.map VolR.D) x0)) ∧ Below W.heap.size W w' := fun W B g ts h => by
    have := volNmI (some ⟨g, 0, none⟩) n n nx ts x0 W h.tlen (by omega) h.rd
    rw [h.cpd.1] at this
    exact this
  generalize volNm (rs.map VolR.D) x0 = R at cS cI
  have CS : Hid _ := cS
  have CI : Hid _ := cI
  have HRA : Hid _ := hr
  clear cS cI hr hn hsm hi hm hwx B0 z0 b1
  obtain ⟨q0, q1⟩ := z1.two
  obtain ⟨G0, hG0⟩ : ∃ G, w.heap.size = G := ⟨_, rfl⟩
  rw [hG0] at z1 q0 q1 ⊢
  go_wp2_with fail
  refine (CA.out w1 (RdVo.keep HRA.out B1)).mono ?_
  rintro e w2 ⟨gA, tA, rfl, qA, b2⟩
  have B2 := B1.trans (b2.mono B1.size)
  have z2 := z1.keep b2
  clear q0 q1 z1 b2
  go_wp2_with fail
  refine (CS.out w2 _ gA tA qA).mono ?_
  rintro e w3 ⟨rfl, b3⟩
  have B3 := B2.trans (b3.mono B2.size)
  have z3 := z2.keep b3
  clear qA z2 b3
  obtain ⟨q0, q1⟩ := z3.two
  go_wp2_with fail
  refine (CA.out w3 (RdVo.keep HRA.out B3)).mono ?_
  rintro e w4 ⟨gB, tB, rfl, qB, b4⟩
  have B4 := B3.trans (b4.mono B3.size)
  have z4 := z3.keep b4
  have b5 : Below w4.heap.size w4 (w4.alloc (.cells #[.slice (some ⟨gB, 0, none⟩) n n, .int .i64 nx] 24)) := (Below.refl _ w4).alloc (Nat.le_refl _) _
  have m5 := BoxT.new w4 24 (some ⟨gB, 0, none⟩) n n nx
  clear q0 q1 z3 b4
  go_wp2_with fail
  obtain ⟨W5, hW5⟩ : ∃ W, w4.alloc (.cells #[.slice (some ⟨gB, 0, none⟩) n n, .int .i64 nx] 24) = W := ⟨_, rfl⟩
  rw [hW5] at b5 m5 ⊢
  clear hW5
  obtain ⟨G4, hG4⟩ : ∃ G, w4.heap.size = G := ⟨_, rfl⟩
  rw [hG4] at m5 ⊢
  have B5 := B4.trans (b5.mono B4.size)
  have z5 := z4.keep b5
  have qB5 := qB.keep b5
  clear qB z4 b5
  refine (CI.out W5 _ gB tB qB5).mono ?_
  rintro e w6 ⟨rfl, b6⟩
  have B6 := B5.trans (b6.mono B5.size)
  have z6 := z5.keep b6
  have m6 := m5.keep b6
  have qB6 := qB5.keep b6
  clear qB5 z5 m5 b6
  obtain ⟨q0, q1⟩ := z6.two
  obtain ⟨p0, p1⟩ := m6.two
  have r6 := RdVo.keep HRA.out B6.drew
  have qB6d := qB6.keep (Below.refl w6.heap.size w6).drew
  have m6d := m6.keep (Below.refl w6.heap.size w6).drew
  have hbs6 := B6.size
  have hRR : (R != R) = false := by simp
  have hRS : (R == R) = true := by simp
  go_wp2
  go_region_with (first
    | (go_at_call 14; (with_reducible refine (CA.out _ r6).mono ?_); rintro e wA ⟨gC, tC, rfl, qC, b9⟩; have qAA := qB6d.keep b9; obtain ⟨t0, t1⟩ := (m6d.keep b9).two)
    | (go_at_call 9; refine (eqFsQ _ _ gB gC n n n nx rs tB tC _ hn1 HS.out qAA qC).mono ?_; rintro e wB ⟨rfl, b10⟩))
  all_goals go_wp2
  all_goals go_ret
  all_goals exact ⟨rfl, B6.drew.trans ((b9.trans (b10.mono b9.size)).mono hbs6)⟩

/-! ### THE ROW's STEP: WRITTEN OUT: LEAVE IT -/
set_option maxRecDepth 100000 in
theorem lifted (os : Os) (started : os.Started) (H : Type) (enc : TypeId × Value → H) :
    ReturnsInHanded {} Try.checked os 5 .any (Rows.fnExactVolNamedSpec.pre6 enc Try.prog Try.f5 Rows.fnExactVolNamedRow.domain false) (Rows.fnExactVolNamedSpec.post enc Try.prog Try.f5 false true false false) := by
  refine returnsInHanded_of_change (C := Try.checked) own started (by kernel_rfl) Try.func5
    (ChangeSpec.witness6 (enc := enc) (C := Try.checked) false ⟨#[], #[.agg #[.slice none 0 0, .int .i64 0], .string ByteArray.empty], []⟩ 8 (by kernel_rfl) (by kernel_rfl) (by kernel_rfl) (by kernel_rfl)) ?_
  intro W base args ds gs before hval0 hW hcnd _
  have hval : ∀ (j : Nat) t v, Try.f5.params[j]? = some t → args[j]? = some v → Value.okWide Try.prog W .any base t v := hval0
  have hW' := hW
  obtain ⟨p, q, hA0, hV, rfl, hfz, hnd⟩ := hW
  have hA : DataW.TrodAll enc Try.prog W 0 (fun _ => true) true Try.f5.params.toList args.toList ds p := hA0
  rw [Try.params5] at hA hval
  obtain ⟨v0, vs0, d0, ds0, p0, q0, hargs, rfl, rfl, h0, r0⟩ := trodAll_cons hA
  obtain ⟨v1, vs1, d1, ds1, p1, q1, rfl, rfl, rfl, h1, r1⟩ := trodAll_cons r0
  obtain ⟨rfl, rfl, rfl⟩ := trodAll_nil r1
  obtain rfl : args = #[v0, v1] := by cases args; simp_all
  obtain ⟨rfl, rfl⟩ := trodVars_none hV
  have k0 := h0
  have lt0 : ∀ x ∈ p0, x.block < W.heap.size := by obtain ⟨m, hm⟩ := k0; exact DataW.trod_lt m _ _ _ hm
  obtain ⟨x0, c0, n0, rs0, rfl, wn0, m0, i0, w0⟩ := open_fs (hval 0 31 v0 rfl rfl) h0
  obtain ⟨s1, rfl, rfl, rfl, w1⟩ := open_string Try.underlying9 (hval 1 9 v1 rfl rfl) h1
  clear hA0 hval0
  refine (walk x0 c0 n0 rs0 s1 W m0 i0 w0 w1).mono fun e W' ⟨he, bel⟩ => ?_
  subst he
  exact ⟨_, rfl, _, _, _, [], _, [], hW', trodAll_mk1 (shut_bool Try.underlying4 _), (trodAll_cons_mk (Below.trod laidOut (by kernel_rfl) (of_decide_eq_true (by kernel_rfl)) k0 bel lt0) (trodAll_cons_mk (shut_string Try.underlying9 w1) trodAll_mk0)), rfl, bel.frame _, fun h => by cases h⟩

theorem over : Rows.fnExactVolNamedRow.holds Try.pinned (OpenSpec.ofChange Rows.fnExactVolNamedSpec) :=
  OpenClaim.holds_of_wide 5 Try.f5 rfl rfl rfl rfl rfl rfl rfl ⟨rfl, rfl, rfl, rfl, rfl⟩ rfl rfl rfl rfl rfl (by kernel_rfl) Try.func5 (by kernel_rfl)
    (of_decide_eq_true (by kernel_rfl)) (by unfold Func.isWrapper; first | (rw [if_pos (by decide +kernel)]; kernel_rfl) | (rw [if_neg (by decide +kernel)]; exact ⟨rfl, rfl⟩))
    (fun os started H enc _ => lifted os started H enc)

/-- ████ THE STATEMENT ████ -/
theorem proved : Rows.FnExactVolNamedSaid := over
#print axioms proved
end Go.Proofs.Ytfjlemnohjnkhaa.fnExactVolNamed
