/-
  At every log both LogOk functions answer the same.
  The frame is the one that the guide's own program writes for a law over one []byte, turned to this law's parameters.
-/
import Derived.Test.YtcocjffjhbpoeaaRows
import Derived.Test.YtcocjffjhbpoeaaJ36X
import Derived.WalkKit
import Derived.ProofKit
import Derived.OpenShut
import Derived.ShutString
import Derived.ChangeOld
import Derived.Below
namespace Go.Proofs.Ytcocjffjhbpoeaa.fnExactLogOk
open Go.ChangeShapes Go.WideShapes Go.ChangeAt Go.RowKit
open Go.ChangeMaps (open_string shut_string)
set_option linter.unusedVariables false

theorem own : ownKnob Try.prog.godebug = none := by kernel_rfl
theorem laidOut : laidOutB Try.prog = true := by kernel_rfl

/-! ### STEP 1: THE WALK: the Go text returns true, AND WRITES NOTHING THAT WAS THERE: 'Below w.heap.size w w'' (Derived/Below.lean: '.refl', '.alloc', '.drew', '.setCell' at a new block, '.trans'). Open each 'IsRow' by 'rcases' AHEAD of 'go_enter'; part every test ahead of the walk. -/
set_option maxRecDepth 100000 in
set_option maxHeartbeats 16000000 in
theorem walk (a : Option Addr) (cap : Nat) (bs : List BkR) (ops : Int) (fa : Option Addr) (fc : Nat) (fs : List FtD) (down : Bool) (seq : Int) (w : World) (hm : bs.length ≤ maxLen) (hi : ∀ r ∈ bs, BkIn r) (hr : RdBs w a bs) (hfm : fs.length ≤ maxLen) (hrf : RdFa w fa fs) (_hws : (Lit.int .i64 seq).wf = true) :
    Calls Try.prog 6 #[.agg #[.slice a bs.length cap, .int .i64 ops, .slice fa fs.length fc, .bool down, .int .i64 seq]] w fun e w' => e = .returned (.bool true) ∧ Below w.heap.size w w' := by
  obtain ⟨n, hn⟩ : ∃ n, bs.length = n := ⟨_, rfl⟩
  obtain ⟨m, hnf⟩ : ∃ m, fs.length = m := ⟨_, rfl⟩
  rw [hn] at hm ⊢
  rw [hnf] at hfm ⊢
  have B0 : Below w.heap.size w (w.alloc (.cells #[.slice a n cap, .int .i64 ops, .slice fa m fc, .bool down, .int .i64 seq] 29)) := (Below.refl _ w).alloc (Nat.le_refl _) _
  have z0 := Blk.new w 29 #[.slice a n cap, .int .i64 ops, .slice fa m fc, .bool down, .int .i64 seq]
  go_enter Try.func6, Try.ntmps6
  go_wp2_with fail
  obtain ⟨W0, hW0⟩ : ∃ W, w.alloc (.cells #[.slice a n cap, .int .i64 ops, .slice fa m fc, .bool down, .int .i64 seq] 29) = W := ⟨_, rfl⟩
  rw [hW0] at B0 z0 ⊢
  clear hW0
  refine (szLog_w a n cap 1048576 bs ops fa m fc down seq W0 hn hm hfm (by omega) hi (hr.keep B0)).mono ?_
  rintro e w1 ⟨hsz, b1⟩
  have B1 := B0.trans (b1.mono B0.size)
  have z1 := z0.keep b1
  rcases hsz with rfl | ⟨x, hx, rfl, _⟩
  · go_wp2
    go_ret
    exact ⟨rfl, B1⟩
  have hx0 : ¬ (x : Int) < 0 := by omega
  have htot : Hid (totB (bs.map BkR.D) ≤ 1048576) := by show _ ≤ _; omega
  have hmt : Hid (m ≤ 1048576) := by show _ ≤ _; omega
  have HN : Hid ((bs.map BkR.D).length = n) := by show _ = _; simp [hn]
  have HRA : Hid (∀ W : World, Below w.heap.size w W → CR W a n bs ∧ FR W fa m fs) := fun W h => ⟨⟨hn, htot.out, hr.keep h⟩, ⟨hnf, hmt.out, hrf.keep h⟩⟩
  have CA : Hid (∀ (W : World), CR W a n bs ∧ FR W fa m fs → _) := fun (W : World) (h : CR W a n bs ∧ FR W fa m fs) => toLog_any a n cap bs ops fa m fc fs down seq W h.1 h.2
  have HCF : Hid (∀ (W : World) (B g g' : Nat) (ts : List BkR), NewDv W B (some ⟨g, 0, none⟩) n n (some ⟨g', 0, none⟩) m m (bs.map BkR.D) fs ts → CR W (some ⟨g, 0, none⟩) n ts ∧ FR W (some ⟨g', 0, none⟩) m fs) := fun W B g g' ts h => ⟨⟨by rw [h.bs.len, HN.out], by rw [h.bs.D]; exact htot.out, h.bs.rd⟩, OwnFa.fr h.fs hmt.out⟩
  have HBY : Hid (BytC (bs.map BkR.D)) := by
    show BytC _
    intro b hb p hp
    obtain ⟨r, hr2, rfl⟩ := List.mem_map.1 hb
    obtain ⟨q, hq, rfl⟩ := List.mem_map.1 hp
    exact ((hi r hr2).ps q hq).byt
  have cS : ∀ (W : World) (B g g' : Nat) (ts : List BkR), NewDv W B (some ⟨g, 0, none⟩) n n (some ⟨g', 0, none⟩) m m (bs.map BkR.D) fs ts → Calls Try.prog 21 #[.agg #[.slice (some ⟨g, 0, none⟩) n n, .int .i64 ops, .slice (some ⟨g', 0, none⟩) m m, .bool down, .int .i64 seq]] W fun e w' => e = .returned (.bool (lgB (bs.map BkR.D) ops fs seq)) ∧ Below W.heap.size W w' := fun W B g g' ts h => by
    have := logOkS (some ⟨g, 0, none⟩) n n ts ops (some ⟨g', 0, none⟩) m m fs down seq W (HCF.out W B g g' ts h).1 (HCF.out W B g g' ts h).2 (by rw [h.bs.D]; exact HBY.out) h.bs.caps
    rw [h.bs.D] at this
    exact this
  have cI : ∀ (W : World) (B g g' : Nat) (ts : List BkR), NewDv W B (some ⟨g, 0, none⟩) n n (some ⟨g', 0, none⟩) m m (bs.map BkR.D) fs ts → Calls Try.prog 22 #[.agg #[.slice (some ⟨g, 0, none⟩) n n, .int .i64 ops, .slice (some ⟨g', 0, none⟩) m m, .bool down, .int .i64 seq]] W fun e w' => e = .returned (.bool (lgB (bs.map BkR.D) ops fs seq)) ∧ Below W.heap.size W w' := fun W B g g' ts h => by
    have := logOkI (some ⟨g, 0, none⟩) n n ts ops (some ⟨g', 0, none⟩) m m fs down seq W (HCF.out W B g g' ts h).1 (HCF.out W B g g' ts h).2 (by rw [h.bs.D]; exact HBY.out)
    rw [h.bs.D] at this
    exact this
  generalize lgB (bs.map BkR.D) ops fs seq = R at cS cI
  have CS : Hid _ := cS
  have CI : Hid _ := cI
  clear cS cI hr hn hi hm B0 z0 b1 hnf hrf
  have q0 := (z1).cell 0
  have q1 := (z1).cell 1
  have q2 := (z1).cell 2
  have q3 := (z1).cell 3
  have q4 := (z1).cell 4
  simp at q0 q1 q2 q3 q4
  obtain ⟨G0, hG0⟩ : ∃ G, w.heap.size = G := ⟨_, rfl⟩
  rw [hG0] at z1 q0 q1 q2 q3 q4 ⊢
  go_wp2_with fail
  refine (CA.out w1 (HRA.out _ B1)).mono ?_
  rintro e w2 ⟨gA, hA, tA, rfl, qA, b2⟩
  have B2 := B1.trans (b2.mono B1.size)
  have z2 := z1.keep b2
  clear q0 q1 q2 q3 q4 z1 b2
  go_wp2_with fail
  refine (CS.out w2 _ gA hA tA qA).mono ?_
  rintro e w3 ⟨rfl, b3⟩
  have B3 := B2.trans (b3.mono B2.size)
  have z3 := z2.keep b3
  clear qA z2 b3
  have q0 := (z3).cell 0
  have q1 := (z3).cell 1
  have q2 := (z3).cell 2
  have q3 := (z3).cell 3
  have q4 := (z3).cell 4
  simp at q0 q1 q2 q3 q4
  go_wp2_with fail

  refine (CA.out w3 (HRA.out _ B3)).mono ?_
  rintro e w4 ⟨gB, hB, tB, rfl, qB, b4⟩
  have B4 := B3.trans (b4.mono B3.size)
  have z4 := z3.keep b4
  have b5 : Below w4.heap.size w4 (w4.alloc (.cells #[.slice (some ⟨gB, 0, none⟩) n n, .int .i64 ops, .slice (some ⟨hB, 0, none⟩) m m, .bool down, .int .i64 seq] 39)) := (Below.refl _ w4).alloc (Nat.le_refl _) _
  have m5 := Blk.new w4 39 #[.slice (some ⟨gB, 0, none⟩) n n, .int .i64 ops, .slice (some ⟨hB, 0, none⟩) m m, .bool down, .int .i64 seq]
  clear q0 q1 q2 q3 q4 z3 b4
  go_wp2_with fail
  obtain ⟨W5, hW5⟩ : ∃ W, w4.alloc (.cells #[.slice (some ⟨gB, 0, none⟩) n n, .int .i64 ops, .slice (some ⟨hB, 0, none⟩) m m, .bool down, .int .i64 seq] 39) = W := ⟨_, rfl⟩
  rw [hW5] at b5 m5 ⊢
  clear hW5
  obtain ⟨G4, hG4⟩ : ∃ G, w4.heap.size = G := ⟨_, rfl⟩
  rw [hG4] at m5 ⊢
  have B5 := B4.trans (b5.mono B4.size)
  have z5 := z4.keep b5
  have qB5 := qB.keep b5
  clear qB z4 b5
  refine (CI.out W5 _ gB hB tB qB5).mono ?_
  rintro e w6 ⟨rfl, b6⟩
  have B6 := B5.trans (b6.mono B5.size)
  have z6 := z5.keep b6
  have m6 := m5.keep b6
  have qB6 := qB5.keep b6
  clear qB5 z5 m5 b6
  
  have q0 := (z6).cell 0
  have q1 := (z6).cell 1
  have q2 := (z6).cell 2
  have q3 := (z6).cell 3
  have q4 := (z6).cell 4
  simp at q0 q1 q2 q3 q4
  have p0 := (m6).cell 0
  have p1 := (m6).cell 1
  have p2 := (m6).cell 2
  have p3 := (m6).cell 3
  have p4 := (m6).cell 4
  simp at p0 p1 p2 p3 p4
  have r6 := HRA.out _ B6.drew
  have qB6d := qB6.keep (Below.refl w6.heap.size w6).drew
  have m6d := m6.keep (Below.refl w6.heap.size w6).drew
  have hbs6 := B6.size
  have hRR : (R != R) = false := by simp
  have hRS : (R == R) = true := by simp
  clear qB6 z6 m6
  go_wp2
  go_region_with (first
    | (go_at_call 10; (with_reducible refine (CA.out _ r6).mono ?_); rintro e wA ⟨gC, hC, tC, rfl, qC, b9⟩; have qAA := qB6d.keep b9; have t0 := (m6d.keep b9).cell 0; have t1 := (m6d.keep b9).cell 1; have t2 := (m6d.keep b9).cell 2; have t3 := (m6d.keep b9).cell 3; have t4 := (m6d.keep b9).cell 4; simp at t0 t1 t2 t3 t4)
    | (go_at_call 12; refine (eqLg ops down seq HN.out (Nat.le_trans htot.out (by omega)) hmt.out qAA qC).mono ?_; rintro e wB ⟨rfl, b10⟩))
  all_goals go_wp2
  all_goals go_ret
  all_goals exact ⟨rfl, B6.drew.trans ((b9.trans (b10.mono b9.size)).mono hbs6)⟩

/-! ### THE ROW's STEP: WRITTEN OUT: LEAVE IT -/
set_option maxRecDepth 100000 in
theorem lifted (os : Os) (started : os.Started) (H : Type) (enc : TypeId × Value → H) :
    ReturnsInHanded {} Try.checked os 6 .any (Rows.fnExactLogOkSpec.pre6 enc Try.prog Try.f6 Rows.fnExactLogOkRow.domain false) (Rows.fnExactLogOkSpec.post enc Try.prog Try.f6 false true false false) := by
  refine returnsInHanded_of_change (C := Try.checked) own started (by kernel_rfl) Try.func6
    (ChangeSpec.witness6 (enc := enc) (C := Try.checked) false ⟨#[], #[.agg #[.slice none 0 0, .int .i64 0, .slice none 0 0, .bool false, .int .i64 0]], []⟩ 8 (by kernel_rfl) (by kernel_rfl) (by kernel_rfl) (by kernel_rfl)) ?_
  intro W base args ds gs before hval0 hW hcnd _
  have hval : ∀ (j : Nat) t v, Try.f6.params[j]? = some t → args[j]? = some v → Value.okWide Try.prog W .any base t v := hval0
  have hW' := hW
  obtain ⟨p, q, hA0, hV, rfl, hfz, hnd⟩ := hW
  have hA : DataW.TrodAll enc Try.prog W 0 (fun _ => true) true Try.f6.params.toList args.toList ds p := hA0
  rw [Try.params6] at hA hval
  obtain ⟨v0, vs0, d0, ds0, p0, q0, hargs, rfl, rfl, h0, r0⟩ := trodAll_cons hA
  obtain ⟨rfl, rfl, rfl⟩ := trodAll_nil r0
  obtain rfl : args = #[v0] := by cases args; simp_all
  obtain ⟨rfl, rfl⟩ := trodVars_none hV
  have k0 := h0
  have lt0 : ∀ x ∈ p0, x.block < W.heap.size := by obtain ⟨m, hm⟩ := k0; exact DataW.trod_lt m _ _ _ hm
  obtain ⟨x0, c0, rs0, o0, fa0, fc0, fs0, dn0, sq0, rfl, m0, i0, w0, fm0, fw0, ws0⟩ := open_log (hval 0 29 v0 rfl rfl) h0
  clear hA0 hval0
  refine (walk x0 c0 rs0 o0 fa0 fc0 fs0 dn0 sq0 W m0 i0 w0 fm0 fw0 ws0).mono fun e W' ⟨he, bel⟩ => ?_
  subst he
  exact ⟨_, rfl, _, _, _, [], _, [], hW', trodAll_mk1 (shut_bool Try.underlying4 _), (trodAll_cons_mk (Below.trod laidOut (by kernel_rfl) (of_decide_eq_true (by kernel_rfl)) k0 bel lt0) trodAll_mk0), rfl, bel.frame _, fun h => by cases h⟩

theorem over : Rows.fnExactLogOkRow.holds Try.pinned (OpenSpec.ofChange Rows.fnExactLogOkSpec) :=
  OpenClaim.holds_of_wide 6 Try.f6 rfl rfl rfl rfl rfl rfl rfl ⟨rfl, rfl, rfl, rfl, rfl⟩ rfl rfl rfl rfl rfl (by kernel_rfl) Try.func6 (by kernel_rfl)
    (of_decide_eq_true (by kernel_rfl)) (by unfold Func.isWrapper; first | (rw [if_pos (by decide +kernel)]; kernel_rfl) | (rw [if_neg (by decide +kernel)]; exact ⟨rfl, rfl⟩))
    (fun os started H enc _ => lifted os started H enc)

/-- ████ THE STATEMENT ████ -/
theorem proved : Rows.FnExactLogOkSaid := over
#print axioms proved
end Go.Proofs.Ytcocjffjhbpoeaa.fnExactLogOk
