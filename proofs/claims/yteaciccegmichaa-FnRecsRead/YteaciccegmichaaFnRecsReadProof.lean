/-
  At every slice of bytes: what is read of the drawn bytes as a record is right, and has these bytes; both GetRec functions agree whether there is one.
  The frame (all but the walk) is the text that the guide's own program writes for this row.
-/
import Derived.Test.YteaciccegmichaaRows
import Derived.Test.YteaciccegmichaaJ23R
import Derived.WalkKit
import Derived.ProofKit
import Derived.OpenShut
import Derived.ShutString
import Derived.ChangeOld
import Derived.Below
namespace Go.Proofs.Yteaciccegmichaa.fnRecsRead
open Go.ChangeShapes Go.WideShapes Go.ChangeAt Go.RowKit
open Go.ChangeMaps (open_string shut_string)
set_option linter.unusedVariables false

theorem own : ownKnob Try.prog.godebug = none := by kernel_rfl
theorem laidOut : laidOutB Try.prog = true := by kernel_rfl

/-- WHAT THE WALK IS TOLD OF A SLICE OF INTEGERS THAT CAME IN: it is nil; or it leads to a row of 'cap' cells, the numbers 'zs' (the first 'len' are its elements, the rest its spare room), each fitting its kind. -/
def IsRow (k : IntKind) (w : World) (a : Option Addr) (len cap : Nat) (zs : List Int) : Prop :=
  (a = none ∧ len = 0 ∧ cap = 0 ∧ zs = []) ∨
  ∃ x, a = some x ∧ len ≤ cap ∧ cap ≤ maxLen ∧ zs.length = cap ∧ (∀ i, i < zs.length → w.cell? (x.add i) = some (.int k (zs.getD i 0))) ∧ ∀ n ∈ zs, (Lit.int k n).wf = true

/-! ### STEP 1: THE WALK: the Go text returns true, AND WRITES NOTHING THAT WAS THERE: 'Below w.heap.size w w'' (Derived/Below.lean: '.refl', '.alloc', '.drew', '.setCell' at a new block, '.trans'). Open each 'IsRow' by 'rcases' AHEAD of 'go_enter'; part every test ahead of the walk. -/
set_option maxRecDepth 100000 in
set_option maxHeartbeats 8000000 in
theorem walk (a0 : Option Addr) (len0 cap0 : Nat) (z0 : List Int) (w : World) (w0 : IsRow .u8 w a0 len0 cap0 z0) :
    Calls Try.prog 4 #[.slice a0 len0 cap0] w fun e w' => e = .returned (.bool true) ∧ Below w.heap.size w w' := by
  obtain ⟨zs, hn, hr, hb⟩ := rd_of_row w0
  clear w0
  by_cases hbig : 1048576 < len0
  · have hd : decide ((1048576 : Int) < (len0 : Int)) = true := by simp; omega
    go_enter Try.func4, Try.ntmps4
    go_wp2_with fail
    refine (big_any a0 len0 cap0 w).mono ?_
    rintro e w1 ⟨rfl, hw⟩
    obtain rfl := hw.symm
    rw [hd]
    go_wp2
    go_ret
    exact ⟨rfl, Below.refl _ _⟩
  have hd : decide ((1048576 : Int) < (len0 : Int)) = false := by simp; omega
  have hcD := drawGetRec_any a0 len0 cap0 zs w hn (by omega) hr hb
  clear hn hr hb
  go_enter Try.func4, Try.ntmps4
  go_wp2_with fail
  refine (big_any a0 len0 cap0 w).mono ?_
  rintro e w1 ⟨rfl, hw⟩
  obtain rfl := hw.symm
  rw [hd]
  clear hd hbig
  go_wp2_with fail
  refine hcD.mono ?_
  rintro e w1 ⟨g, m, c, ys, rfl, hg, o1, hby, hm, B1⟩
  clear hcD
  have hc1 : m ≤ c := by
    rcases o1.2 with ⟨h1, h2⟩ | ⟨g', c', cur, h1, _, _, h2, _⟩
    · simp at h1
    · simp only [Value.slice.injEq] at h1; omega
  have hyl := o1.len
  have CI := fun (W : World) (ho : Own W g m c ys) => getRecIO (some ⟨g, 0, none⟩) m c ys W hyl (by omega) hc1 ho.rd hby
  have CS := fun (W : World) (ho : Own W g m c ys) => getRecSO (some ⟨g, 0, none⟩) m c ys W hyl (by omega) hc1 ho.rd hby
  have hform := rc_form hby
  have hno : rcOk ys = false → rcR ys = ⟨0, 0, []⟩ := fun h => by unfold rcR; rw [h]; rfl
  have hDb := rcR_byt ys
  have hDl := rcR_len ys (by omega)
  generalize rcR ys = D at CI CS hform hno hDb hDl
  generalize rcOk ys = ok at CI CS hform hno
  have HYL : Hid (ys.length = m) := hyl
  have CP := fun (W : World) (a : Option Addr) (cc : Nat) (hsm : RecSmall D) (hr : Rd W a D.body) => putRecI D a cc W hsm ⟨hr, hDb⟩
  have CO := fun (W : World) (a : Option Addr) (cc : Nat) => recOkI D a cc W (by omega)
  obtain ⟨kind, seq, body⟩ := D
  unfold recC at CI CS CP CO
  unfold RecSmall at CP
  dsimp only at CI CS CP CO hDl hDb
  obtain ⟨nb, hnb⟩ : ∃ k, body.length = k := ⟨_, rfl⟩
  rw [hnb] at CI CS CP CO hDl
  clear hby hyl
  go_wp2_with fail
  refine (CI w1 o1).mono ?_
  rintro e w2 ⟨⟨a2, c2, rfl, rx, hnx⟩, b2⟩
  have bA : Below w2.heap.size w2 (w2.alloc (.cells #[.int .i64 kind, .int .i64 seq, .slice a2 nb c2] 25)) := (Below.refl _ w2).alloc (Nat.le_refl _) _
  have y3 := Blk.new w2 25 #[.int .i64 kind, .int .i64 seq, .slice a2 nb c2]
  have b3 := b2.trans (bA.mono b2.size)
  have B3 := B1.trans (b3.mono B1.size)
  have o3 := o1.keep b3 o1.lt
  have rx3 := RowB.keep rx bA
  obtain ⟨W3, hW3⟩ : ∃ W, w2.alloc (.cells #[.int .i64 kind, .int .i64 seq, .slice a2 nb c2] 25) = W := ⟨_, rfl⟩
  rw [hW3] at bA y3 b3 B3 o3 rx3
  obtain ⟨Y, hY⟩ : ∃ Y, w2.heap.size = Y := ⟨_, rfl⟩
  rw [hY] at y3
  clear o1 rx hnx bA b2 b3 B1
  go_wp2_with fail
  try rw [hW3]
  try rw [hY]
  clear hW3
  refine (CS W3 o3).mono ?_
  rintro e w4 ⟨⟨a4, c4, rfl, _, _⟩, b4⟩
  have bA : Below w4.heap.size w4 (w4.alloc (.cells #[.int .i64 kind, .int .i64 seq, .slice a4 nb c4] 25)) := (Below.refl _ w4).alloc (Nat.le_refl _) _
  have b5 := b4.trans (bA.mono b4.size)
  have B5 := B3.trans (b5.mono B3.size)
  have o5 := o3.keep b5 o3.lt
  have y5 := y3.keep b5
  have rx5 := RowB.keep rx3 b5
  obtain ⟨W5, hW5⟩ : ∃ W, w4.alloc (.cells #[.int .i64 kind, .int .i64 seq, .slice a4 nb c4] 25) = W := ⟨_, rfl⟩
  rw [hW5] at bA b5 B5 o5 y5 rx5
  obtain ⟨t0, t1, t2⟩ := y5.thr
  clear o3 rx3 y3 bA b4 b5 B3 CI CS
  have hoo : (ok == ok) = true := by simp
  cases ok
  · have hz := hno rfl
    simp only [RecD.mk.injEq] at hz
    obtain ⟨rfl, rfl, rfl⟩ := hz
    clear hform hno CP CO
    go_wp2
    go_ret
    exact ⟨rfl, B5⟩
  · obtain ⟨hr1, hr2⟩ := hform rfl
    rw [hr2] at CP
    rw [hr1] at CO
    rw [HYL.out] at CP
    clear hform hno hr1 hr2
    go_wp2_with fail
    try rw [hW5]
    clear hW5
    refine (CO W5 _ _).mono ?_
    rintro e w6 ⟨rfl, b6⟩
    have B6 := B5.trans (b6.mono B5.size)
    have o6 := o5.keep b6 o5.lt
    have y6 := y5.keep b6
    have rx6 := RowB.keep rx5 b6
    obtain ⟨t0, t1, t2⟩ := y6.thr
    clear o5 y5 rx5 b6 B5
    go_wp2_with fail
    refine (CP w6 _ _ (by omega) rx6.rd).mono ?_
    rintro e w7 ⟨a7, d7, rfl, r7, _, b7⟩
    have B7 := B6.trans (b7.mono B6.size)
    have o7 := o6.keep b7 o6.lt
    go_wp2_with fail
    refine (sameL_any a7 (some ⟨g, 0, none⟩) m m d7 c ys ys w7 HYL.out HYL.out (by omega) (by omega) r7.rd o7.rd).mono ?_
    rintro e w8 ⟨rfl, dd, rfl⟩
    have hbb : decide (ys = ys) = true := by simp
    rw [hbb]
    clear hbb
    go_wp2
    go_ret
    exact ⟨rfl, below_drewN B7 dd⟩

/-! ### THE ROW's STEP: WRITTEN OUT: LEAVE IT -/
set_option maxRecDepth 100000 in
theorem lifted (os : Os) (started : os.Started) (H : Type) (enc : TypeId × Value → H) :
    ReturnsInHanded {} Try.checked os 4 .any (Rows.fnRecsReadSpec.pre6 enc Try.prog Try.f4 Rows.fnRecsReadRow.domain false) (Rows.fnRecsReadSpec.post enc Try.prog Try.f4 false true false false) := by
  refine returnsInHanded_of_change (C := Try.checked) own started (by kernel_rfl) Try.func4
    (ChangeSpec.witness6 (enc := enc) (C := Try.checked) false ⟨#[], #[.slice none 0 0], []⟩ 8 (by kernel_rfl) (by kernel_rfl) (by kernel_rfl) (by kernel_rfl)) ?_
  intro W base args ds gs before hval0 hW hcnd _
  have hval : ∀ (j : Nat) t v, Try.f4.params[j]? = some t → args[j]? = some v → Value.okWide Try.prog W .any base t v := hval0
  have hW' := hW
  obtain ⟨p, q, hA0, hV, rfl, hfz, hnd⟩ := hW
  have hA : DataW.TrodAll enc Try.prog W 0 (fun _ => true) true Try.f4.params.toList args.toList ds p := hA0
  rw [Try.params4] at hA hval
  obtain ⟨v0, vs0, d0, ds0, p0, q0, hargs, rfl, rfl, h0, r0⟩ := trodAll_cons hA
  obtain ⟨rfl, rfl, rfl⟩ := trodAll_nil r0
  obtain rfl : args = #[v0] := by cases args; simp_all
  obtain ⟨rfl, rfl⟩ := trodVars_none hV
  obtain ⟨a0, len0, cap0, rfl⟩ := okWide_slice Try.underlying22 (hval 0 22 v0 rfl rfl)
  have k0 := h0
  have lt0 : ∀ x ∈ p0, x.block < W.heap.size := by obtain ⟨m, hm⟩ := k0; exact DataW.trod_lt m _ _ _ hm
  obtain ⟨z0, w0⟩ : ∃ zs, IsRow .u8 W a0 len0 cap0 zs := by
    obtain ⟨fuel, hf⟩ := h0
    rcases open_ints Try.underlying22 Try.underlying5 (by kernel_rfl) hf with ⟨hcs, _⟩ | ⟨x, l, c, zs, hcs, _, hl, hm, hz, _, hcell, hwz⟩
    · simp [Value.cells] at hcs
      obtain ⟨rfl, rfl, rfl⟩ := hcs
      exact ⟨[], .inl ⟨rfl, rfl, rfl, rfl⟩⟩
    · simp [Value.cells] at hcs
      obtain ⟨rfl, rfl, rfl⟩ := hcs
      exact ⟨zs, .inr ⟨_, rfl, hl, hm, by simpa using hz, hcell, hwz⟩⟩
  clear hA0 hval0
  refine (walk a0 len0 cap0 z0 W w0).mono fun e W' ⟨he, bel⟩ => ?_
  subst he
  exact ⟨_, rfl, _, _, _, [], _, [], hW', trodAll_mk1 (shut_bool Try.underlying4 _), (trodAll_cons_mk (Below.trod laidOut (by kernel_rfl) (of_decide_eq_true (by kernel_rfl)) k0 bel lt0) trodAll_mk0), rfl, bel.frame _, fun h => by cases h⟩

theorem over : Rows.fnRecsReadRow.holds Try.pinned (OpenSpec.ofChange Rows.fnRecsReadSpec) :=
  OpenClaim.holds_of_wide 4 Try.f4 rfl rfl rfl rfl rfl rfl rfl ⟨rfl, rfl, rfl, rfl, rfl⟩ rfl rfl rfl rfl rfl (by kernel_rfl) Try.func4 (by kernel_rfl)
    (of_decide_eq_true (by kernel_rfl)) (by unfold Func.isWrapper; first | (rw [if_pos (by decide +kernel)]; kernel_rfl) | (rw [if_neg (by decide +kernel)]; exact ⟨rfl, rfl⟩))
    (fun os started H enc _ => lifted os started H enc)

/-- ████ THE STATEMENT ████ -/
theorem proved : Rows.FnRecsReadSaid := over
#print axioms proved
end Go.Proofs.Yteaciccegmichaa.fnRecsRead
