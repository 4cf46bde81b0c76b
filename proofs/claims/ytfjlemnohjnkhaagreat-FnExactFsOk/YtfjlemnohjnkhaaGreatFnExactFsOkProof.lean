/-
  At every argument FsOk answers as its model; it writes into no argument.
  The frame is the one that the guide's own program writes for a law over one []byte, turned to this law's parameters.
-/
import Derived.Test.YtfjlemnohjnkhaaGreatRows
import Derived.Test.YtfjlemnohjnkhaaGreatFsOkIF
import Derived.Test.YtfjlemnohjnkhaaGreatFsOkSF
import Derived.Test.YtfjlemnohjnkhaaGreatJ40F
import Derived.WalkKit
import Derived.ProofKit
import Derived.OpenShut
import Derived.ShutString
import Derived.ChangeOld
import Derived.Below
namespace Go.Proofs.YtfjlemnohjnkhaaGreat.fnExactFsOk
open Go.ChangeShapes Go.WideShapes Go.ChangeAt Go.RowKit
open Go.ChangeMaps (open_string shut_string)
set_option linter.unusedVariables false

theorem own : ownKnob Tryz.prog.godebug = none := by kernel_rfl
theorem laidOut : laidOutB Tryz.prog = true := by kernel_rfl

/-! ### STEP 1: THE WALK: the Go text returns true, AND WRITES NOTHING THAT WAS THERE: 'Below w.heap.size w w'' (Derived/Below.lean: '.refl', '.alloc', '.drew', '.setCell' at a new block, '.trans'). Open each 'IsRow' by 'rcases' AHEAD of 'go_enter'; part every test ahead of the walk. -/
theorem wfV_of {vs us : List VolR} (h : us.map VolR.D = vs.map VolR.D) (hw : ∀ r ∈ vs, ∀ q ∈ r.rs, (Lit.int .i64 q.D.ino).wf = true) : ∀ r ∈ us, ∀ q ∈ r.rs, (Lit.int .i64 q.D.ino).wf = true := fun r hr q hq => by
  have h1 : r.D ∈ us.map VolR.D := List.mem_map_of_mem hr
  rw [h] at h1
  obtain ⟨p, hp, e⟩ := List.mem_map.1 h1
  have h2 := (SameV.of e.symm).rs
  have h3 : q.D ∈ r.rs.map InoR.D := List.mem_map_of_mem hq
  rw [h2] at h3
  obtain ⟨o, ho, e2⟩ := List.mem_map.1 h3
  rw [← e2]
  exact hw p hp o ho
set_option maxRecDepth 100000 in
set_option maxHeartbeats 8000000 in
theorem walk (a : Option Addr) (cap : Nat) (nx : Int) (rs : List VolR) (w : World) (hm : rs.length ≤ maxLen) (hi : ∀ r ∈ rs, VolIn r) (hr : RdVo w a rs) :
    Calls Tryz.prog 3 #[.agg #[.slice a rs.length cap, .int .i64 nx]] w fun e w' => e = .returned (.bool true) ∧ Below w.heap.size w w' := by
  obtain ⟨n, hn⟩ : ∃ n, rs.length = n := ⟨_, rfl⟩
  rw [hn] at hm ⊢
  have B0 : Below w.heap.size w (w.alloc (.cells #[.slice a n cap, .int .i64 nx] 24)) := (Below.refl _ w).alloc (Nat.le_refl _) _
  have z0 := BoxT.new w 24 a n cap nx
  go_enter Tryz.func3, Tryz.ntmps3
  go_wp2_with fail
  obtain ⟨W0, hW0⟩ : ∃ W, w.alloc (.cells #[.slice a n cap, .int .i64 nx] 24) = W := ⟨_, rfl⟩
  rw [hW0] at B0 z0 ⊢
  clear hW0
  refine (szFs_w a n cap 1048576 nx rs W0 hn hm (by omega) hi (hr.keep B0)).mono ?_
  rintro e w1 ⟨hsz, b1⟩
  have B1 := B0.trans (b1.mono B0.size)
  have z1 := z0.keep b1
  rcases hsz with rfl | ⟨x, hx, rfl, hn1, hsm⟩
  · go_wp2
    go_ret
    exact ⟨rfl, B1⟩
  have hx0 : ¬ (x : Int) < 0 := by omega
  have hwf : ∀ r ∈ rs, ∀ q ∈ r.rs, (Lit.int .i64 q.D.ino).wf = true := fun r h q hq => ((hi r h).ino q hq).ino
  have HS : Hid _ := hsm
  have CA : Hid _ := fun (W : World) (h : RdVo W a rs) => toFsQ a n cap nx rs W hn hn1 HS.out h
  have cS : ∀ (W : World) (B g : Nat) (ts : List VolR), FsQ W B g n rs ts → Calls Tryz.prog 6 #[.agg #[.slice (some ⟨g, 0, none⟩) n n, .int .i64 nx]] W fun e w' => e = .returned (.bool (fsOkD nx (rs.map VolR.D))) ∧ Below W.heap.size W w' := fun W B g ts h => by
    have hw : ∀ r ∈ ts, ∀ q ∈ r.rs, (Lit.int .i64 q.D.ino).wf = true := wfV_of h.cpd.1 hwf
    have := fsOkS (some ⟨g, 0, none⟩) n n nx ts W h.tlen (by omega) (h.small HS.out) hw h.rd
    rw [h.cpd.1] at this
    exact this
  have cI : ∀ (W : World) (B g : Nat) (ts : List VolR), FsQ W B g n rs ts → Calls Tryz.prog 8 #[.agg #[.slice (some ⟨g, 0, none⟩) n n, .int .i64 nx]] W fun e w' => e = .returned (.bool (fsOkD nx (rs.map VolR.D))) ∧ Below W.heap.size W w' := fun W B g ts h => by
    have hw : ∀ r ∈ ts, ∀ q ∈ r.rs, (Lit.int .i64 q.D.ino).wf = true := wfV_of h.cpd.1 hwf
    have := fsOkI (some ⟨g, 0, none⟩) n n nx ts W h.tlen (by omega) (h.small HS.out) hw h.rd
    rw [h.cpd.1] at this
    exact this
  generalize fsOkD nx (rs.map VolR.D) = R at cS cI
  have CS : Hid _ := cS
  have CI : Hid _ := cI
  have HRA : Hid _ := hr
  clear cS cI hr hn hsm hwf hi hm B0 z0 b1
  obtain ⟨q0, q1⟩ := z1.two
  obtain ⟨G0, hG0⟩ : ∃ G, w.heap.size = G := ⟨_, rfl⟩
  rw [hG0] at z1 q0 q1 ⊢
  go_wp2_with fail
  refine (CA.out w1 (RdVo.keep HRA.out B1)).mono ?_
  rintro e w2 ⟨gA, tA, rfl, qA, b2⟩
  have B2 := B1.trans (b2.mono B1.size)
  have z2 := z1.keep b2
  clear q0 q1 z1 b2
  go_wp2_with fail
  refine (CS.out w2 _ gA tA qA).mono ?_
  rintro e w3 ⟨rfl, b3⟩
  have B3 := B2.trans (b3.mono B2.size)
  have z3 := z2.keep b3
  clear qA z2 b3
  obtain ⟨q0, q1⟩ := z3.two
  go_wp2_with fail
  refine (CA.out w3 (RdVo.keep HRA.out B3)).mono ?_
  rintro e w4 ⟨gB, tB, rfl, qB, b4⟩
  have B4 := B3.trans (b4.mono B3.size)
  have z4 := z3.keep b4
  have b5 : Below w4.heap.size w4 (w4.alloc (.cells #[.slice (some ⟨gB, 0, none⟩) n n, .int .i64 nx] 29)) := (Below.refl _ w4).alloc (Nat.le_refl _) _
  have m5 := BoxT.new w4 29 (some ⟨gB, 0, none⟩) n n nx
  clear q0 q1 z3 b4
  go_wp2_with fail
  obtain ⟨W5, hW5⟩ : ∃ W, w4.alloc (.cells #[.slice (some ⟨gB, 0, none⟩) n n, .int .i64 nx] 29) = W := ⟨_, rfl⟩
  rw [hW5] at b5 m5 ⊢
  clear hW5
  obtain ⟨G4, hG4⟩ : ∃ G, w4.heap.size = G := ⟨_, rfl⟩
  rw [hG4] at m5 ⊢
  have B5 := B4.trans (b5.mono B4.size)
  have z5 := z4.keep b5
  have qB5 := qB.keep b5
  clear qB z4 b5
  refine (CI.out W5 _ gB tB qB5).mono ?_
  rintro e w6 ⟨rfl, b6⟩
  have B6 := B5.trans (b6.mono B5.size)
  have z6 := z5.keep b6
  have m6 := m5.keep b6
  have qB6 := qB5.keep b6
  clear qB5 z5 m5 b6
  obtain ⟨q0, q1⟩ := z6.two
  obtain ⟨p0, p1⟩ := m6.two
  have r6 := RdVo.keep HRA.out B6.drew
  have qB6d := qB6.keep (Below.refl w6.heap.size w6).drew
  have m6d := m6.keep (Below.refl w6.heap.size w6).drew
  have hbs6 := B6.size
  have hRR : (R != R) = false := by simp
  go_wp2
  go_region_with (first
    | (go_at_call 7; (with_reducible refine (CA.out _ r6).mono ?_); rintro e wA ⟨gC, tC, rfl, qC, b9⟩; have qAA := qB6d.keep b9; obtain ⟨t0, t1⟩ := (m6d.keep b9).two)
    | (go_at_call 9; refine (eqFsQ _ _ gB gC n n n nx rs tB tC _ hn1 HS.out qAA qC).mono ?_; rintro e wB ⟨rfl, b10⟩))
  all_goals go_wp2
  all_goals go_ret
  all_goals exact ⟨rfl, B6.drew.trans ((b9.trans (b10.mono b9.size)).mono hbs6)⟩

/-! ### THE ROW's STEP: WRITTEN OUT: LEAVE IT -/
set_option maxRecDepth 100000 in
theorem lifted (os : Os) (started : os.Started) (H : Type) (enc : TypeId × Value → H) :
    ReturnsInHanded {} Tryz.checked os 3 .any (Rows.fnExactFsOkSpec.pre6 enc Tryz.prog Tryz.f3 Rows.fnExactFsOkRow.domain false) (Rows.fnExactFsOkSpec.post enc Tryz.prog Tryz.f3 false true false false) := by
  refine returnsInHanded_of_change (C := Tryz.checked) own started (by kernel_rfl) Tryz.func3
    (ChangeSpec.witness6 (enc := enc) (C := Tryz.checked) false ⟨#[], #[.agg #[.slice none 0 0, .int .i64 0]], []⟩ 8 (by kernel_rfl) (by kernel_rfl) (by kernel_rfl) (by kernel_rfl)) ?_
  intro W base args ds gs before hval0 hW hcnd _
  have hval : ∀ (j : Nat) t v, Tryz.f3.params[j]? = some t → args[j]? = some v → Value.okWide Tryz.prog W .any base t v := hval0
  have hW' := hW
  obtain ⟨p, q, hA0, hV, rfl, hfz, hnd⟩ := hW
  have hA : DataW.TrodAll enc Tryz.prog W 0 (fun _ => true) true Tryz.f3.params.toList args.toList ds p := hA0
  rw [Tryz.params3] at hA hval
  obtain ⟨v0, vs0, d0, ds0, p0, q0, hargs, rfl, rfl, h0, r0⟩ := trodAll_cons hA
  obtain ⟨rfl, rfl, rfl⟩ := trodAll_nil r0
  obtain rfl : args = #[v0] := by cases args; simp_all
  obtain ⟨rfl, rfl⟩ := trodVars_none hV
  have k0 := h0
  have lt0 : ∀ x ∈ p0, x.block < W.heap.size := by obtain ⟨m, hm⟩ := k0; exact DataW.trod_lt m _ _ _ hm
  obtain ⟨x0, c0, n0, rs0, rfl, wn0, m0, i0, w0⟩ := open_fs (hval 0 24 v0 rfl rfl) h0
  clear hA0 hval0
  refine (walk x0 c0 n0 rs0 W m0 i0 w0).mono fun e W' ⟨he, bel⟩ => ?_
  subst he
  exact ⟨_, rfl, _, _, _, [], _, [], hW', trodAll_mk1 (shut_bool Tryz.underlying4 _), (trodAll_cons_mk (Below.trod laidOut (by kernel_rfl) (of_decide_eq_true (by kernel_rfl)) k0 bel lt0) trodAll_mk0), rfl, bel.frame _, fun h => by cases h⟩

theorem over : Rows.fnExactFsOkRow.holds Tryz.pinned (OpenSpec.ofChange Rows.fnExactFsOkSpec) :=
  OpenClaim.holds_of_wide 3 Tryz.f3 rfl rfl rfl rfl rfl rfl rfl ⟨rfl, rfl, rfl, rfl, rfl⟩ rfl rfl rfl rfl rfl (by kernel_rfl) Tryz.func3 (by kernel_rfl)
    (of_decide_eq_true (by kernel_rfl)) (by unfold Func.isWrapper; first | (rw [if_pos (by decide +kernel)]; kernel_rfl) | (rw [if_neg (by decide +kernel)]; exact ⟨rfl, rfl⟩))
    (fun os started H enc _ => lifted os started H enc)

/-- ████ THE STATEMENT ████ -/
theorem proved : Rows.FnExactFsOkSaid := over
#print axioms proved
end Go.Proofs.YtfjlemnohjnkhaaGreat.fnExactFsOk
