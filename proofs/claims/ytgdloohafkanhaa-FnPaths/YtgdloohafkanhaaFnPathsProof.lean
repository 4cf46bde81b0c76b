/-
  Drawn names that are a path come back of it, and so does a path of its names; at every code; without a condition.
  The frame (all but the walk) is the text that the guide's own program writes for this row.
-/
import Derived.Test.YtgdloohafkanhaaRows
import Derived.Test.YtgdloohafkanhaaPath
import Derived.Test.YtgdloohafkanhaaName
import Derived.Test.YtgdloohafkanhaaCut
import Derived.Test.YtgdloohafkanhaaIter
import Derived.Test.YtgdloohafkanhaaSplit
import Derived.Test.YtgdloohafkanhaaSplitS
import Derived.Test.YtgdloohafkanhaaMarks
import Derived.Test.YtgdloohafkanhaaEqs
import Derived.Test.YtgdloohafkanhaaJoin
import Derived.Test.YtgdloohafkanhaaParent
import Derived.Test.YtgdloohafkanhaaCopy
import Derived.Test.YtgdloohafkanhaaCursor
import Derived.Test.YtgdloohafkanhaaDrawP
import Derived.Test.YtgdloohafkanhaaPathLaws
import Derived.WalkKit
import Derived.ProofKit
import Derived.OpenShut
import Derived.ShutString
import Derived.ChangeOld
import Derived.Below
namespace Go.Proofs.Ytgdloohafkanhaa.fnPaths
open Go.ChangeShapes Go.WideShapes Go.ChangeAt Go.RowKit
open Go.ChangeMaps (open_string shut_string)
set_option linter.unusedVariables false

theorem own : ownKnob Try.prog.godebug = none := by kernel_rfl
theorem laidOut : laidOutB Try.prog = true := by kernel_rfl

/-- WHAT THE WALK IS TOLD OF A SLICE OF INTEGERS THAT CAME IN: it is nil; or it leads to a row of 'cap' cells, the numbers 'zs' (the first 'len' are its elements, the rest its spare room), each fitting its kind. -/
def IsRow (k : IntKind) (w : World) (a : Option Addr) (len cap : Nat) (zs : List Int) : Prop :=
  (a = none ∧ len = 0 ∧ cap = 0 ∧ zs = []) ∨
  ∃ x, a = some x ∧ len ≤ cap ∧ cap ≤ maxLen ∧ zs.length = cap ∧ (∀ i, i < zs.length → w.cell? (x.add i) = some (.int k (zs.getD i 0))) ∧ ∀ n ∈ zs, (Lit.int k n).wf = true

/-! ### STEP 1: THE WALK: the Go text returns true, AND WRITES NOTHING THAT WAS THERE: 'Below w.heap.size w w'' (Derived/Below.lean: '.refl', '.alloc', '.drew', '.setCell' at a new block, '.trans'). Open each 'IsRow' by 'rcases' AHEAD of 'go_enter'; part every test ahead of the walk. -/
set_option maxHeartbeats 3000000 in
theorem walk (a0 : Option Addr) (len0 cap0 : Nat) (z0 : List Int) (w : World) (w0 : IsRow .u8 w a0 len0 cap0 z0) :
    Calls Try.prog 3 #[.slice a0 len0 cap0] w fun e w' => e = .returned (.bool true) ∧ Below w.heap.size w w' := by
  obtain ⟨zs, hn, hr, hb⟩ := rd_of_row w0
  clear w0
  have hn' : Hid (zs.length = len0) := hn
  clear hn
  by_cases hbig : 1048576 < len0
  · have hd : decide ((1048576 : Int) < (len0 : Int)) = true := by simp; omega
    go_enter Try.func3, Try.ntmps3
    go_wp2_with fail
    refine (big_any a0 len0 cap0 w).mono ?_
    rintro e w' ⟨rfl, rfl⟩
    rw [hd]
    go_wp2
    go_ret
    exact ⟨rfl, Below.refl _ _⟩
  · have hsm : len0 ≤ 1048576 := by omega
    have hd : decide ((1048576 : Int) < (len0 : Int)) = false := by simp; omega
    go_enter Try.func3, Try.ntmps3
    go_wp2_with fail
    refine (big_any a0 len0 cap0 w).mono ?_
    rintro e w' ⟨rfl, hw⟩
    obtain rfl := hw.symm
    clear hw
    rw [hd]
    clear hd
    have HR : Hid (Rd w a0 zs) := hr
    have HBy : Hid (Byt zs) := hb
    go_wp2_with fail
    refine (drawJoin_any a0 len0 cap0 zs _ hn'.out hsm hr hb).mono ?_
    rintro e w1 ⟨g, m, c, ys, rfl, hm, hg, hty, ho1, B1⟩
    clear hr hb
    have hsm2 : Smalls ys := fun y hy => by have := hty y hy; omega
    have hyl : Hid (ys.length = m) := ho1.len
    go_wp2_with fail
    refine (joinI _ m c ys _ ho1.len (by omega) hsm2 ho1.rd).mono ?_
    rintro e w1' ⟨rfl, hw⟩
    obtain rfl := hw.symm
    clear hw
    obtain ⟨S, hS0⟩ : ∃ S, strB (joinOf (strs ys)) = S := ⟨_, rfl⟩
    have hS : Hid (strB (joinOf (strs ys)) = S) := hS0
    rw [hS0]
    have hSd : S.data.toList = joinOf (strs ys) := by rw [← hS0]; simp [strB]
    have hSz : S.size ≤ 1000 := by
      rw [Lib.size_eq, hSd]
      exact join_small (strs ys)
    clear hS0
    by_cases hje : joinOf (strs ys) = []
    · have hsp : Hid (splitOf S.data.toList = none) := by show _ = _; rw [hSd, hje]; rfl
      have hSe : (S.toList == []) = true := by rw [Lib.toList_data, hSd, hje]; rfl
      clear hSd hje
      go_wp2_with fail
      refine (splitI S w1 (by omega)).mono ?_
      intro e w3 h3
      obtain ⟨b3, a3, c3, rfl⟩ := h3.no hsp.out
      clear h3
      have B3 := B1.trans (b3.mono B1.size)
      have ho3 := ho1.keep b3
      have hr4 := HR.out.keep B3
      go_wp2_with fail
      refine (drawSplit_any a0 len0 cap0 zs w3 hn'.out hsm hr4 HBy.out).mono ?_
      rintro e w4 ⟨t, rfl, ht, b4⟩
      have B4 := B3.trans (b4.mono B3.size)
      have ho4 := ho3.keep b4
      clear hr4
      cases htp : splitOf t.data.toList with
      | none =>
        have htp' : Hid (splitOf t.data.toList = none) := htp
        clear htp
        go_wp2_with fail
        refine (splitI t w4 (by omega)).mono ?_
        intro e w5 h5
        obtain ⟨b5, a5, c5, rfl⟩ := h5.no htp'.out
        clear h5
        have B5 := B4.trans (b5.mono B4.size)
        have ho5 := ho4.keep b5
        go_wp2_with fail
        refine (splitS t w5 (by omega)).mono ?_
        intro e w9 h9
        obtain ⟨b9, a9, c9, rfl⟩ := h9.no htp'.out
        clear h9
        have B9 := B5.trans (b9.mono B5.size)
        have ho9 := ho5.keep b9
        go_wp2_with fail
        refine (joinS _ m c ys _ ho9.len (by omega) hsm2 ho9.rd).mono ?_
        rintro e w9' ⟨rfl, hw⟩
        obtain rfl := hw.symm
        clear hw
        rw [hS.out]
        go_wp2
        go_ret
        exact ⟨rfl, B9⟩
      | some ps =>
        obtain ⟨ts, hts, ht30⟩ := split_strs htp
        have hjt : Hid (strB (joinOf (strs ts)) = t) := by show _ = _; rw [join_split hts]; exact Lib.mk_data t
        have hsmt := smalls_of_good (split_good hts)
        have htp' : Hid (splitOf t.data.toList = some (strs ts)) := hts
        clear htp hts
        go_wp2_with fail
        refine (splitI t w4 (by omega)).mono ?_
        intro e w5 h5
        obtain ⟨b5, g5, c5, rfl, hg5, hy5⟩ := h5.yes htp'.out
        clear h5
        have B5 := B4.trans (b5.mono B4.size)
        have ho5 := ho4.keep b5
        go_wp2_with fail
        refine (splitS t w5 (by omega)).mono ?_
        intro e w9 h9
        obtain ⟨b9, g9, c9, rfl, hg9, hz9⟩ := h9.yes htp'.out
        clear h9
        have B9 := B5.trans (b9.mono B5.size)
        have hy9 := hy5.keep b9
        have ho9 := ho5.keep b9
        go_wp2_with fail
        refine (joinI _ ts.length c5 ts _ rfl (by omega) hsmt hy9.rd).mono ?_
        rintro e w9a ⟨rfl, hw⟩
        obtain rfl := hw.symm
        clear hw
        rw [hjt.out]
        go_wp2_with fail
        refine (joinS _ m c ys _ ho9.len (by omega) hsm2 ho9.rd).mono ?_
        rintro e w9' ⟨rfl, hw⟩
        obtain rfl := hw.symm
        clear hw
        rw [hS.out]
        go_wp2
        go_ret
        exact ⟨rfl, B9⟩
    · have hsp : Hid (splitOf S.data.toList = some (strs ys)) := by show _ = _; rw [hSd]; exact split_join hje
      have hSe : (S.toList == []) = false := by rw [Lib.toList_data, hSd, beq_eq_false_iff_ne]; exact hje
      clear hSd hje
      go_wp2_with fail
      refine (splitI S w1 (by omega)).mono ?_
      intro e w3 h3
      obtain ⟨b3, gx, cx, rfl, hgx, hx3⟩ := h3.yes hsp.out
      clear h3
      rw [hyl.out] at hx3 ⊢
      have B3 := B1.trans (b3.mono B1.size)
      have ho3 := ho1.keep b3
      have hr4 := HR.out.keep B3
      go_wp2_with fail
      refine (drawSplit_any a0 len0 cap0 zs w3 hn'.out hsm hr4 HBy.out).mono ?_
      rintro e w4 ⟨t, rfl, ht, b4⟩
      have B4 := B3.trans (b4.mono B3.size)
      have ho4 := ho3.keep b4
      have hx4 := hx3.keep b4
      clear hr4
      cases htp : splitOf t.data.toList with
      | none =>
        have htp' : Hid (splitOf t.data.toList = none) := htp
        clear htp
        go_wp2_with fail
        refine (splitI t w4 (by omega)).mono ?_
        intro e w5 h5
        obtain ⟨b5, a5, c5, rfl⟩ := h5.no htp'.out
        clear h5
        have B5 := B4.trans (b5.mono B4.size)
        have ho5 := ho4.keep b5
        have hx5 := hx4.keep b5
        go_wp2_with fail
        refine (splitS t w5 (by omega)).mono ?_
        intro e w9 h9
        obtain ⟨b9, a9, c9, rfl⟩ := h9.no htp'.out
        clear h9
        have B9 := B5.trans (b9.mono B5.size)
        have ho9 := ho5.keep b9
        have hx9 := hx5.keep b9
        go_wp2_with fail
        refine (joinS _ m c ys _ ho9.len (by omega) hsm2 ho9.rd).mono ?_
        rintro e w9' ⟨rfl, hw⟩
        obtain rfl := hw.symm
        clear hw
        rw [hS.out]
        go_wp2_with fail
        refine (sameT_same _ _ m cx c ys _ ho9.len (by omega) hx9.rd ho9.rd).mono ?_
        rintro e w10 ⟨rfl, d10, rfl⟩
        go_wp2
        go_ret
        exact ⟨rfl, below_drewN B9 d10⟩
      | some ps =>
        obtain ⟨ts, hts, ht30⟩ := split_strs htp
        have hjt : Hid (strB (joinOf (strs ts)) = t) := by show _ = _; rw [join_split hts]; exact Lib.mk_data t
        have hsmt := smalls_of_good (split_good hts)
        have htp' : Hid (splitOf t.data.toList = some (strs ts)) := hts
        clear htp hts
        go_wp2_with fail
        refine (splitI t w4 (by omega)).mono ?_
        intro e w5 h5
        obtain ⟨b5, g5, c5, rfl, hg5, hy5⟩ := h5.yes htp'.out
        clear h5
        have B5 := B4.trans (b5.mono B4.size)
        have ho5 := ho4.keep b5
        have hx5 := hx4.keep b5
        go_wp2_with fail
        refine (splitS t w5 (by omega)).mono ?_
        intro e w9 h9
        obtain ⟨b9, g9, c9, rfl, hg9, hz9⟩ := h9.yes htp'.out
        clear h9
        have B9 := B5.trans (b9.mono B5.size)
        have hy9 := hy5.keep b9
        have ho9 := ho5.keep b9
        have hx9 := hx5.keep b9
        go_wp2_with fail
        refine (joinI _ ts.length c5 ts _ rfl (by omega) hsmt hy9.rd).mono ?_
        rintro e w9a ⟨rfl, hw⟩
        obtain rfl := hw.symm
        clear hw
        rw [hjt.out]
        go_wp2_with fail
        refine (joinS _ m c ys _ ho9.len (by omega) hsm2 ho9.rd).mono ?_
        rintro e w9' ⟨rfl, hw⟩
        obtain rfl := hw.symm
        clear hw
        rw [hS.out]
        go_wp2_with fail
        refine (sameT_same _ _ m cx c ys _ ho9.len (by omega) hx9.rd ho9.rd).mono ?_
        rintro e w10 ⟨rfl, d10, rfl⟩
        go_wp2
        go_ret
        exact ⟨rfl, below_drewN B9 d10⟩

/-! ### THE ROW's STEP: WRITTEN OUT: LEAVE IT -/
set_option maxRecDepth 100000 in
theorem lifted (os : Os) (started : os.Started) (H : Type) (enc : TypeId × Value → H) :
    ReturnsInHanded {} Try.checked os 3 .any (Rows.fnPathsSpec.pre6 enc Try.prog Try.f3 Rows.fnPathsRow.domain false) (Rows.fnPathsSpec.post enc Try.prog Try.f3 false true false false) := by
  refine returnsInHanded_of_change (C := Try.checked) own started (by kernel_rfl) Try.func3
    (ChangeSpec.witness6 (enc := enc) (C := Try.checked) false ⟨#[], #[.slice none 0 0], []⟩ 8 (by kernel_rfl) (by kernel_rfl) (by kernel_rfl) (by kernel_rfl)) ?_
  intro W base args ds gs before hval0 hW hcnd _
  have hval : ∀ (j : Nat) t v, Try.f3.params[j]? = some t → args[j]? = some v → Value.okWide Try.prog W .any base t v := hval0
  have hW' := hW
  obtain ⟨p, q, hA0, hV, rfl, hfz, hnd⟩ := hW
  have hA : DataW.TrodAll enc Try.prog W 0 (fun _ => true) true Try.f3.params.toList args.toList ds p := hA0
  rw [Try.params3] at hA hval
  obtain ⟨v0, vs0, d0, ds0, p0, q0, hargs, rfl, rfl, h0, r0⟩ := trodAll_cons hA
  obtain ⟨rfl, rfl, rfl⟩ := trodAll_nil r0
  obtain rfl : args = #[v0] := by cases args; simp_all
  obtain ⟨rfl, rfl⟩ := trodVars_none hV
  obtain ⟨a0, len0, cap0, rfl⟩ := okWide_slice Try.underlying22 (hval 0 22 v0 rfl rfl)
  have k0 := h0
  have lt0 : ∀ x ∈ p0, x.block < W.heap.size := by obtain ⟨m, hm⟩ := k0; exact DataW.trod_lt m _ _ _ hm
  obtain ⟨z0, w0⟩ : ∃ zs, IsRow .u8 W a0 len0 cap0 zs := by
    obtain ⟨fuel, hf⟩ := h0
    rcases open_ints Try.underlying22 Try.underlying5 (by kernel_rfl) hf with ⟨hcs, _⟩ | ⟨x, l, c, zs, hcs, _, hl, hm, hz, _, hcell, hwz⟩
    · simp [Value.cells] at hcs
      obtain ⟨rfl, rfl, rfl⟩ := hcs
      exact ⟨[], .inl ⟨rfl, rfl, rfl, rfl⟩⟩
    · simp [Value.cells] at hcs
      obtain ⟨rfl, rfl, rfl⟩ := hcs
      exact ⟨zs, .inr ⟨_, rfl, hl, hm, by simpa using hz, hcell, hwz⟩⟩
  clear hA0 hval0
  refine (walk a0 len0 cap0 z0 W w0).mono fun e W' ⟨he, bel⟩ => ?_
  subst he
  exact ⟨_, rfl, _, _, _, [], _, [], hW', trodAll_mk1 (shut_bool Try.underlying4 _), (trodAll_cons_mk (Below.trod laidOut (by kernel_rfl) (of_decide_eq_true (by kernel_rfl)) k0 bel lt0) trodAll_mk0), rfl, bel.frame _, fun h => by cases h⟩

theorem over : Rows.fnPathsRow.holds Try.pinned (OpenSpec.ofChange Rows.fnPathsSpec) :=
  OpenClaim.holds_of_wide 3 Try.f3 rfl rfl rfl rfl rfl rfl rfl ⟨rfl, rfl, rfl, rfl, rfl⟩ rfl rfl rfl rfl rfl (by kernel_rfl) Try.func3 (by kernel_rfl)
    (of_decide_eq_true (by kernel_rfl)) (by unfold Func.isWrapper; first | (rw [if_pos (by decide +kernel)]; kernel_rfl) | (rw [if_neg (by decide +kernel)]; exact ⟨rfl, rfl⟩))
    (fun os started H enc _ => lifted os started H enc)

/-- ████ THE STATEMENT ████ -/
theorem proved : Rows.FnPathsSaid := over
#print axioms proved
end Go.Proofs.Ytgdloohafkanhaa.fnPaths
