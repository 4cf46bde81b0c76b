/-
  A drawn path is its parent, a slash and its last name, and is below its parent; at every code; without a condition.
  The frame (all but the walk) is the text that the guide's own program writes for this row.
-/
import Derived.Test.YtgdloohafkanhaaRows
import Derived.Test.YtgdloohafkanhaaPath
import Derived.Test.YtgdloohafkanhaaName
import Derived.Test.YtgdloohafkanhaaCut
import Derived.Test.YtgdloohafkanhaaIter
import Derived.Test.YtgdloohafkanhaaSplit
import Derived.Test.YtgdloohafkanhaaSplitS
import Derived.Test.YtgdloohafkanhaaMarks
import Derived.Test.YtgdloohafkanhaaEqs
import Derived.Test.YtgdloohafkanhaaJoin
import Derived.Test.YtgdloohafkanhaaParent
import Derived.Test.YtgdloohafkanhaaCopy
import Derived.Test.YtgdloohafkanhaaCursor
import Derived.Test.YtgdloohafkanhaaDrawP
import Derived.Test.YtgdloohafkanhaaPathLaws
import Derived.WalkKit
import Derived.ProofKit
import Derived.OpenShut
import Derived.ShutString
import Derived.ChangeOld
import Derived.Below
namespace Go.Proofs.Ytgdloohafkanhaa.fnParents
open Go.ChangeShapes Go.WideShapes Go.ChangeAt Go.RowKit
open Go.ChangeMaps (open_string shut_string)
set_option linter.unusedVariables false

theorem own : ownKnob Try.prog.godebug = none := by kernel_rfl
theorem laidOut : laidOutB Try.prog = true := by kernel_rfl

/-- WHAT THE WALK IS TOLD OF A SLICE OF INTEGERS THAT CAME IN: it is nil; or it leads to a row of 'cap' cells, the numbers 'zs' (the first 'len' are its elements, the rest its spare room), each fitting its kind. -/
def IsRow (k : IntKind) (w : World) (a : Option Addr) (len cap : Nat) (zs : List Int) : Prop :=
  (a = none ∧ len = 0 ∧ cap = 0 ∧ zs = []) ∨
  ∃ x, a = some x ∧ len ≤ cap ∧ cap ≤ maxLen ∧ zs.length = cap ∧ (∀ i, i < zs.length → w.cell? (x.add i) = some (.int k (zs.getD i 0))) ∧ ∀ n ∈ zs, (Lit.int k n).wf = true

/-! ### STEP 1: THE WALK: the Go text returns true, AND WRITES NOTHING THAT WAS THERE: 'Below w.heap.size w w'' (Derived/Below.lean: '.refl', '.alloc', '.drew', '.setCell' at a new block, '.trans'). Open each 'IsRow' by 'rcases' AHEAD of 'go_enter'; part every test ahead of the walk. -/
set_option maxHeartbeats 1600000 in
theorem walk (a0 : Option Addr) (len0 cap0 : Nat) (z0 : List Int) (w : World) (w0 : IsRow .u8 w a0 len0 cap0 z0) :
    Calls Try.prog 4 #[.slice a0 len0 cap0] w fun e w' => e = .returned (.bool true) ∧ Below w.heap.size w w' := by
  obtain ⟨zs, hn, hr, hb⟩ := rd_of_row w0
  clear w0
  have hn' : Hid (zs.length = len0) := hn
  clear hn
  by_cases hbig : 1048576 < len0
  · have hd : decide ((1048576 : Int) < (len0 : Int)) = true := by simp; omega
    go_enter Try.func4, Try.ntmps4
    go_wp2_with fail
    refine (big_any a0 len0 cap0 w).mono ?_
    rintro e w' ⟨rfl, rfl⟩
    rw [hd]
    go_wp2
    go_ret
    exact ⟨rfl, Below.refl _ _⟩
  · have hsm : len0 ≤ 1048576 := by omega
    have hd : decide ((1048576 : Int) < (len0 : Int)) = false := by simp; omega
    go_enter Try.func4, Try.ntmps4
    go_wp2_with fail
    refine (big_any a0 len0 cap0 w).mono ?_
    rintro e w' ⟨rfl, rfl⟩
    rw [hd]
    clear hd
    go_wp2_with fail
    refine (drawParent_any a0 len0 cap0 zs _ hn'.out hsm hr hb).mono ?_
    rintro e w1 ⟨z, rfl, hz, B1⟩
    cases hsp : splitOf z.data.toList with
    | none =>
      have hpa := pa_none hsp
      clear hsp
      have hpa' : Hid (parentOf z.data.toList = ([], [], false)) := hpa
      clear hpa
      go_wp2_with fail
      refine (parentI z w1 (by omega)).mono ?_
      rintro e w2 ⟨b2, rfl⟩
      have B2 := B1.trans (b2.mono B1.size)
      rw [hpa'.out]
      go_wp2_with fail
      refine (parentS z w2 (by omega)).mono ?_
      rintro e w3 ⟨b3, rfl⟩
      have B3 := B2.trans (b3.mono B2.size)
      rw [hpa'.out]
      have hE : strB [] = ⟨#[]⟩ := rfl
      rw [hE]
      go_wp2
      go_ret
      exact ⟨rfl, B3⟩
    | some ps =>
      by_cases hps : ps = []
      · subst hps
        have hpa := pa_nil hsp
        clear hsp
        have hpa' : Hid (parentOf z.data.toList = ([], [], false)) := hpa
        clear hpa
        go_wp2_with fail
        refine (parentI z w1 (by omega)).mono ?_
        rintro e w2 ⟨b2, rfl⟩
        have B2 := B1.trans (b2.mono B1.size)
        rw [hpa'.out]
        go_wp2_with fail
        refine (parentS z w2 (by omega)).mono ?_
        rintro e w3 ⟨b3, rfl⟩
        have B3 := B2.trans (b3.mono B2.size)
        rw [hpa'.out]
        have hE : strB [] = ⟨#[]⟩ := rfl
        rw [hE]
        go_wp2
        go_ret
        exact ⟨rfl, B3⟩
      · obtain ⟨h1, h2, h3, h4⟩ := parent_whole hsp hps
        have hpa : parentOf z.data.toList = (joinOf ps.dropLast, ps.getLastD [], true) := by
          unfold parentOf
          rw [hsp]
          simp only [if_neg hps]
        have hdl : ps.dropLast.length ≤ ps.length := by simp
        have hdl2 : ps.dropLast.length < ps.length := by have := List.length_pos_iff.2 hps; rw [List.length_dropLast]; omega
        have hpre : ps.take ps.dropLast.length = ps.dropLast := by rw [List.dropLast_eq_take]; simp
        have q1' := below_of h2 hsp hdl hpre
        have q2' := below_not hsp h2 hdl2
        have q3' : belowOf [47] z.data.toList = true := below_of (x := []) (by decide) hsp (by simp) (by simp)
        have q4' := below_of hsp hsp (Nat.le_refl _) (by simp)
        have hlen := below_len q1'
        have hnl := nameOk_len h1
        obtain ⟨P, hP⟩ : ∃ P, joinOf ps.dropLast = P := ⟨_, rfl⟩
        obtain ⟨L, hL⟩ : ∃ L, ps.getLastD [] = L := ⟨_, rfl⟩
        rw [hP] at h2 h3 h4 hpa q1' q2' hlen
        rw [hL] at h1 h3 h4 hpa hnl
        obtain ⟨D, hD⟩ : ∃ D, strB P = D := ⟨_, rfl⟩
        obtain ⟨Nm, hNm⟩ : ∃ Nm, strB L = Nm := ⟨_, rfl⟩
        have eP : D.data.toList = P := by rw [← hD]; simp [strB]
        have eL : Nm.data.toList = L := by rw [← hNm]; simp [strB]
        have hDs : D.size ≤ 100 := by rw [Lib.size_eq, eP]; rw [← Lib.size_eq] at hlen; omega
        have hNs : Nm.size ≤ 100 := by rw [Lib.size_eq, eL]; omega
        have hnm : Hid (nameOk Nm.data.toList = true) := by show _ = _; rw [eL]; exact h1
        have q1 : Hid (belowOf D.data.toList z.data.toList = true) := by show _ = _; rw [eP]; exact q1'
        have q2 : Hid (belowOf z.data.toList D.data.toList = false) := by show _ = _; rw [eP]; exact q2'
        have q3 : Hid (belowOf (⟨#[47]⟩ : ByteArray).data.toList z.data.toList = true) := q3'
        have q4 : Hid (belowOf z.data.toList z.data.toList = true) := q4'
        have hpa' : Hid (parentOf z.data.toList = (P, L, true)) := hpa
        have hl1 : ¬ 9223372036854775807 < D.size + 1 := by omega
        have hl2 : ¬ 9223372036854775807 < D.size + 1 + Nm.size := by omega
        have hl3 : ¬ 9223372036854775807 < 1 + Nm.size := by omega
        have hwh : (D = ⟨#[47]⟩ ∧ (⟨#[47]⟩ : ByteArray) ++ Nm = z) ∨ ((D.toList == [47]) = false ∧ D ++ (⟨#[47]⟩ : ByteArray) ++ Nm = z) := by
          by_cases e : P = [47]
          · left
            refine ⟨?_, ?_⟩
            · rw [← hD, e]; rfl
            · apply ByteArray.ext
              apply Array.toList_inj.1
              rw [ByteArray.data_append, Array.toList_append, eL, h3 e]
              rfl
          · right
            refine ⟨?_, ?_⟩
            · rw [beq_eq_false_iff_ne, Lib.toList_data, eP]; exact e
            · apply ByteArray.ext
              apply Array.toList_inj.1
              rw [ByteArray.data_append, ByteArray.data_append, Array.toList_append, Array.toList_append, eL, eP, h4 e, List.append_assoc]
              rfl
        clear h1 h2 h3 h4 hpa hdl hdl2 hpre q1' q2' q3' q4' hlen hnl hP hL eP eL hsp
        go_wp2_with fail
        refine (parentI z w1 (by omega)).mono ?_
        rintro e w2 ⟨b2, rfl⟩
        have B2 := B1.trans (b2.mono B1.size)
        rw [hpa'.out]
        dsimp only
        rw [hD, hNm]
        go_wp2_with fail
        refine (parentS z w2 (by omega)).mono ?_
        rintro e w3 ⟨b3, rfl⟩
        have B3 := B2.trans (b3.mono B2.size)
        rw [hpa'.out]
        dsimp only
        rw [hD, hNm]
        clear hD hNm
        rcases hwh with ⟨hDs', hw⟩ | ⟨hDb, hw⟩
        · have hDb : (D.toList == [47]) = true := by rw [hDs', Lib.toList_data]; rfl
          clear hDs'
          go_wp2_with fail
          refine (nameI Nm w3 (by omega)).mono ?_
          rintro e w3' ⟨rfl, hw⟩
          obtain rfl := hw.symm
          clear hw
          rw [hnm.out]
          go_wp2_with fail
          refine (belowI D z w3 (by omega) (by omega)).mono ?_
          rintro e w4 ⟨rfl, b4⟩
          have B4 := B3.trans (b4.mono B3.size)
          rw [q1.out]
          go_wp2_with fail
          refine (belowI z D w4 (by omega) (by omega)).mono ?_
          rintro e w5 ⟨rfl, b5⟩
          have B5 := B4.trans (b5.mono B4.size)
          rw [q2.out]
          go_wp2_with fail
          refine (belowI ⟨#[47]⟩ z w5 (by decide) (by omega)).mono ?_
          rintro e w6 ⟨rfl, b6⟩
          have B6 := B5.trans (b6.mono B5.size)
          rw [q3.out]
          go_wp2_with fail
          refine (belowI z z w6 (by omega) (by omega)).mono ?_
          rintro e w7 ⟨rfl, b7⟩
          have B7 := B6.trans (b7.mono B6.size)
          rw [q4.out]
          go_wp2
          go_ret
          exact ⟨rfl, B7⟩
        · skip
          go_wp2_with fail
          refine (nameI Nm w3 (by omega)).mono ?_
          rintro e w3' ⟨rfl, hw⟩
          obtain rfl := hw.symm
          clear hw
          rw [hnm.out]
          go_wp2_with fail
          refine (belowI D z w3 (by omega) (by omega)).mono ?_
          rintro e w4 ⟨rfl, b4⟩
          have B4 := B3.trans (b4.mono B3.size)
          rw [q1.out]
          go_wp2_with fail
          refine (belowI z D w4 (by omega) (by omega)).mono ?_
          rintro e w5 ⟨rfl, b5⟩
          have B5 := B4.trans (b5.mono B4.size)
          rw [q2.out]
          go_wp2_with fail
          refine (belowI ⟨#[47]⟩ z w5 (by decide) (by omega)).mono ?_
          rintro e w6 ⟨rfl, b6⟩
          have B6 := B5.trans (b6.mono B5.size)
          rw [q3.out]
          go_wp2_with fail
          refine (belowI z z w6 (by omega) (by omega)).mono ?_
          rintro e w7 ⟨rfl, b7⟩
          have B7 := B6.trans (b7.mono B6.size)
          rw [q4.out]
          go_wp2
          go_ret
          exact ⟨rfl, B7⟩

/-! ### THE ROW's STEP: WRITTEN OUT: LEAVE IT -/
set_option maxRecDepth 100000 in
theorem lifted (os : Os) (started : os.Started) (H : Type) (enc : TypeId × Value → H) :
    ReturnsInHanded {} Try.checked os 4 .any (Rows.fnParentsSpec.pre6 enc Try.prog Try.f4 Rows.fnParentsRow.domain false) (Rows.fnParentsSpec.post enc Try.prog Try.f4 false true false false) := by
  refine returnsInHanded_of_change (C := Try.checked) own started (by kernel_rfl) Try.func4
    (ChangeSpec.witness6 (enc := enc) (C := Try.checked) false ⟨#[], #[.slice none 0 0], []⟩ 8 (by kernel_rfl) (by kernel_rfl) (by kernel_rfl) (by kernel_rfl)) ?_
  intro W base args ds gs before hval0 hW hcnd _
  have hval : ∀ (j : Nat) t v, Try.f4.params[j]? = some t → args[j]? = some v → Value.okWide Try.prog W .any base t v := hval0
  have hW' := hW
  obtain ⟨p, q, hA0, hV, rfl, hfz, hnd⟩ := hW
  have hA : DataW.TrodAll enc Try.prog W 0 (fun _ => true) true Try.f4.params.toList args.toList ds p := hA0
  rw [Try.params4] at hA hval
  obtain ⟨v0, vs0, d0, ds0, p0, q0, hargs, rfl, rfl, h0, r0⟩ := trodAll_cons hA
  obtain ⟨rfl, rfl, rfl⟩ := trodAll_nil r0
  obtain rfl : args = #[v0] := by cases args; simp_all
  obtain ⟨rfl, rfl⟩ := trodVars_none hV
  obtain ⟨a0, len0, cap0, rfl⟩ := okWide_slice Try.underlying22 (hval 0 22 v0 rfl rfl)
  have k0 := h0
  have lt0 : ∀ x ∈ p0, x.block < W.heap.size := by obtain ⟨m, hm⟩ := k0; exact DataW.trod_lt m _ _ _ hm
  obtain ⟨z0, w0⟩ : ∃ zs, IsRow .u8 W a0 len0 cap0 zs := by
    obtain ⟨fuel, hf⟩ := h0
    rcases open_ints Try.underlying22 Try.underlying5 (by kernel_rfl) hf with ⟨hcs, _⟩ | ⟨x, l, c, zs, hcs, _, hl, hm, hz, _, hcell, hwz⟩
    · simp [Value.cells] at hcs
      obtain ⟨rfl, rfl, rfl⟩ := hcs
      exact ⟨[], .inl ⟨rfl, rfl, rfl, rfl⟩⟩
    · simp [Value.cells] at hcs
      obtain ⟨rfl, rfl, rfl⟩ := hcs
      exact ⟨zs, .inr ⟨_, rfl, hl, hm, by simpa using hz, hcell, hwz⟩⟩
  clear hA0 hval0
  refine (walk a0 len0 cap0 z0 W w0).mono fun e W' ⟨he, bel⟩ => ?_
  subst he
  exact ⟨_, rfl, _, _, _, [], _, [], hW', trodAll_mk1 (shut_bool Try.underlying4 _), (trodAll_cons_mk (Below.trod laidOut (by kernel_rfl) (of_decide_eq_true (by kernel_rfl)) k0 bel lt0) trodAll_mk0), rfl, bel.frame _, fun h => by cases h⟩

theorem over : Rows.fnParentsRow.holds Try.pinned (OpenSpec.ofChange Rows.fnParentsSpec) :=
  OpenClaim.holds_of_wide 4 Try.f4 rfl rfl rfl rfl rfl rfl rfl ⟨rfl, rfl, rfl, rfl, rfl⟩ rfl rfl rfl rfl rfl (by kernel_rfl) Try.func4 (by kernel_rfl)
    (of_decide_eq_true (by kernel_rfl)) (by unfold Func.isWrapper; first | (rw [if_pos (by decide +kernel)]; kernel_rfl) | (rw [if_neg (by decide +kernel)]; exact ⟨rfl, rfl⟩))
    (fun os started H enc _ => lifted os started H enc)

/-- ████ THE STATEMENT ████ -/
theorem proved : Rows.FnParentsSaid := over
#print axioms proved
end Go.Proofs.Ytgdloohafkanhaa.fnParents
