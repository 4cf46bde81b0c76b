/-
  At every row of texts JoinPath answers as the specification's, and writes into no argument; without a condition.
  The frame is the one that the guide's own program writes for a law over one []byte, turned to one []string.
-/
import Derived.Test.YtgdloohafkanhaaRows
import Derived.Test.YtgdloohafkanhaaPath
import Derived.Test.YtgdloohafkanhaaName
import Derived.Test.YtgdloohafkanhaaCut
import Derived.Test.YtgdloohafkanhaaIter
import Derived.Test.YtgdloohafkanhaaSplit
import Derived.Test.YtgdloohafkanhaaSplitS
import Derived.Test.YtgdloohafkanhaaMarks
import Derived.Test.YtgdloohafkanhaaEqs
import Derived.Test.YtgdloohafkanhaaJoin
import Derived.Test.YtgdloohafkanhaaCopy
import Derived.WalkKit
import Derived.SliceStrings
import Derived.ProofKit
import Derived.OpenShut
import Derived.ShutString
import Derived.ChangeOld
import Derived.Below
namespace Go.Proofs.Ytgdloohafkanhaa.fnExactJoinPath
open Go.ChangeShapes Go.WideShapes Go.ChangeAt Go.RowKit
open Go.ChangeMaps (open_string shut_string)
set_option linter.unusedVariables false

theorem own : ownKnob Try.prog.godebug = none := by kernel_rfl
theorem laidOut : laidOutB Try.prog = true := by kernel_rfl

/-! ### STEP 1: THE WALK: the Go text returns true, AND WRITES NOTHING THAT WAS THERE: 'Below w.heap.size w w'' (Derived/Below.lean: '.refl', '.alloc', '.drew', '.setCell' at a new block, '.trans'). Open each 'IsRow' by 'rcases' AHEAD of 'go_enter'; part every test ahead of the walk. -/
set_option maxHeartbeats 800000 in
theorem sz_any (a : Option Addr) (n cap : Nat) (zs : List ByteArray) (w : World) (hn : zs.length = n) (hm : n ≤ maxLen) (hms : ∀ z ∈ zs, z.size ≤ maxLen) (hr : RdS w a zs) :
    Calls Try.prog 30 #[.slice a n cap, .int .i64 1048576] w fun e w' => w' = w ∧ ((e = .returned (.int .i64 (-1))) ∨ ((∃ x : Nat, e = .returned (.int .i64 x)) ∧ n ≤ 1048576 ∧ ∀ z ∈ zs, z.size ≤ 1048576)) := by
  unfold maxLen at hm hms
  by_cases hbig : 1048576 < n
  · have h1 : ((1048576 : Int) - (n : Int)) < 0 := by omega
    go_enter Try.func30, Try.ntmps30
    go_wp2
    go_ret
    exact ⟨rfl, .inl rfl⟩
  · have h1 : ¬ ((1048576 : Int) - (n : Int)) < 0 := by omega
    have hn' : Hid (zs.length = n) := hn
    by_cases h0 : n = 0
    · subst h0
      obtain rfl : zs = [] := List.length_eq_zero_iff.1 hn
      go_enter Try.func30, Try.ntmps30
      go_wp2
      refine wp_loop_rounds 1 ?_; rw [rounds_succ]
      go_wp2
      go_ret
      exact ⟨rfl, .inr ⟨⟨1048576, rfl⟩, by omega, by simp⟩⟩
    · obtain ⟨b, off, rfl, hlt, hc⟩ := hr.lt (by intro h; subst h; simp at hn; omega)
      clear hr hn
      go_enter Try.func30, Try.ntmps30
      go_wp2
      go_loop [1, 5] (fun l i => ∃ k x : Nat, k ≤ n ∧ i = .int .i64 k ∧ l = .int .i64 x ∧ x ≤ 1048576 ∧ Hid (∀ j, j < k → (zs.getD j ⟨#[]⟩).size ≤ 1048576)) (fun _ i => n - (intOf i).toNat)
      case atStart => exact ⟨0, 1048576 - n, Nat.zero_le _, rfl, by go_num, by omega, fun j hj => by omega⟩
      case round =>
        obtain ⟨k, x, hk, rfl, rfl, hx, hall⟩ := hrel
        by_cases hkn : k < n
        · have hkl : k < zs.length := by rw [hn'.out]; exact hkn
          have hki : (k : Int) < (n : Int) := by omega
          have hcx := hc k hkl
          have hzs : (zs.getD k ⟨#[]⟩).size ≤ 9223372036854775807 := by
            have e : zs.getD k ⟨#[]⟩ = zs[k] := by simp [hkl]
            rw [e]; exact hms _ (List.getElem_mem hkl)
          have hall' : Hid ((zs.getD k ⟨#[]⟩).size ≤ 1048576 → ∀ j, j < k + 1 → (zs.getD j ⟨#[]⟩).size ≤ 1048576) := by
            intro h j hj
            rcases (show j < k ∨ j = k by omega) with hj | rfl
            · exact hall.out j hj
            · exact h
          obtain ⟨z, hz⟩ : ∃ z, zs.getD k ⟨#[]⟩ = z := ⟨_, rfl⟩
          rw [hz] at hcx hzs hall'
          clear hz hall hkl
          by_cases hlt' : x < z.size
          · have h2 : ((x : Int) - (z.size : Int)) < 0 := by omega
            go_wp2
            go_ret
            exact ⟨rfl, .inl rfl⟩
          · have h2 : ¬ ((x : Int) - (z.size : Int)) < 0 := by omega
            have hal : Hid (∀ j, j < k + 1 → (zs.getD j ⟨#[]⟩).size ≤ 1048576) := hall'.out (by omega)
            go_wp2
            go_round
            case rel => exact ⟨k + 1, x - z.size, by omega, by go_num, by go_num, by omega, hal⟩
            case measure => simp [intOf]; omega
        · have hki : ¬ (k : Int) < (n : Int) := by omega
          obtain rfl : k = n := by omega
          go_wp2
          go_ret
          refine ⟨rfl, .inr ⟨⟨x, rfl⟩, by omega, fun z hz => ?_⟩⟩
          obtain ⟨j, hj, rfl⟩ := List.getElem_of_mem hz
          have := hall.out j (by rw [← hn'.out]; exact hj)
          simpa [hj] using this

set_option maxHeartbeats 800000 in
theorem walk (a0 : Option Addr) (len0 cap0 : Nat) (z0 : List ByteArray) (w : World) (w0 : IsStrs w a0 len0 cap0 z0) :
    Calls Try.prog 8 #[.slice a0 len0 cap0] w fun e w' => e = .returned (.bool true) ∧ Below w.heap.size w w' := by
  obtain ⟨zs, hn, hm, hms, hr⟩ := rdS_of_row w0
  clear w0
  have hn' : Hid (zs.length = len0) := hn
  clear hn
  have hml : len0 ≤ 9223372036854775807 := hm
  go_enter Try.func8, Try.ntmps8
  go_wp2_with fail
  refine (sz_any a0 len0 cap0 zs w hn'.out hm hms hr).mono ?_
  rintro e w1 ⟨hw, (rfl | ⟨⟨x, rfl⟩, hnl, hal⟩)⟩
  · obtain rfl := hw.symm
    go_wp2
    go_ret
    exact ⟨rfl, Below.refl _ _⟩
  · obtain rfl := hw.symm
    have hsm : Smalls zs := fun z hz => by have := hal z hz; omega
    have HS : Hid (Smalls zs) := hsm
    clear hal hsm hms
    go_wp2_with fail
    refine (toS_any a0 len0 cap0 zs _ hn'.out hnl hr).mono ?_
    rintro e w2 ⟨rfl, ho2, hb2⟩
    go_wp2_with fail
    refine (joinS _ len0 len0 zs _ hn'.out (by omega) HS.out ho2.rd).mono ?_
    rintro e w2' ⟨rfl, hw⟩
    obtain rfl := hw.symm
    clear hw
    go_wp2_with fail
    refine (toS_any a0 len0 cap0 zs _ hn'.out hnl (hr.keep hb2)).mono ?_
    rintro e w3 ⟨rfl, ho3, hb3⟩
    go_wp2_with fail
    refine (joinI _ len0 len0 zs _ hn'.out (by omega) HS.out ho3.rd).mono ?_
    rintro e w3' ⟨rfl, hw⟩
    obtain rfl := hw.symm
    clear hw
    obtain ⟨T, hT⟩ : ∃ T, strB (joinOf (strs zs)) = T := ⟨_, rfl⟩
    rw [hT]
    clear hT
    go_wp2_with fail
    refine (toS_any a0 len0 cap0 zs _ hn'.out hnl ((hr.keep hb2).keep hb3)).mono ?_
    rintro e w4 ⟨rfl, ho4, hb4⟩
    go_wp2_with fail
    refine (eqS_same _ _ len0 len0 len0 zs _ hn'.out (by omega) (ho3.rd.keep hb4) ho4.rd).mono ?_
    rintro e w5 ⟨rfl, d, rfl⟩
    go_wp2
    go_ret
    have B3 := hb2.trans (hb3.mono hb2.size)
    have B4 := B3.trans (hb4.mono B3.size)
    exact ⟨rfl, below_drewN B4 d⟩

/-! ### THE ROW's STEP: WRITTEN OUT: LEAVE IT -/
set_option maxRecDepth 100000 in
theorem lifted (os : Os) (started : os.Started) (H : Type) (enc : TypeId × Value → H) :
    ReturnsInHanded {} Try.checked os 8 .any (Rows.fnExactJoinPathSpec.pre6 enc Try.prog Try.f8 Rows.fnExactJoinPathRow.domain false) (Rows.fnExactJoinPathSpec.post enc Try.prog Try.f8 false true false false) := by
  refine returnsInHanded_of_change (C := Try.checked) own started (by kernel_rfl) Try.func8
    (ChangeSpec.witness6 (enc := enc) (C := Try.checked) false ⟨#[], #[.slice none 0 0], []⟩ 8 (by kernel_rfl) (by kernel_rfl) (by kernel_rfl) (by kernel_rfl)) ?_
  intro W base args ds gs before hval0 hW hcnd _
  have hval : ∀ (j : Nat) t v, Try.f8.params[j]? = some t → args[j]? = some v → Value.okWide Try.prog W .any base t v := hval0
  have hW' := hW
  obtain ⟨p, q, hA0, hV, rfl, hfz, hnd⟩ := hW
  have hA : DataW.TrodAll enc Try.prog W 0 (fun _ => true) true Try.f8.params.toList args.toList ds p := hA0
  rw [Try.params8] at hA hval
  obtain ⟨v0, vs0, d0, ds0, p0, q0, hargs, rfl, rfl, h0, r0⟩ := trodAll_cons hA
  obtain ⟨rfl, rfl, rfl⟩ := trodAll_nil r0
  obtain rfl : args = #[v0] := by cases args; simp_all
  obtain ⟨rfl, rfl⟩ := trodVars_none hV
  obtain ⟨a0, len0, cap0, rfl⟩ := okWide_slice Try.underlying24 (hval 0 24 v0 rfl rfl)
  have k0 := h0
  have lt0 : ∀ x ∈ p0, x.block < W.heap.size := by obtain ⟨m, hm⟩ := k0; exact DataW.trod_lt m _ _ _ hm
  obtain ⟨z0, w0⟩ : ∃ zs, IsStrs W a0 len0 cap0 zs := by
    obtain ⟨fuel, hf⟩ := h0
    rcases open_strings Try.underlying24 Try.underlying9 (by kernel_rfl) hf with ⟨hcs, _⟩ | ⟨x, l, c, zs, hcs, _, hl, hm, hz, _, hcell, hwz⟩
    · simp [Value.cells] at hcs
      obtain ⟨rfl, rfl, rfl⟩ := hcs
      exact ⟨[], .inl ⟨rfl, rfl, rfl, rfl⟩⟩
    · simp [Value.cells] at hcs
      obtain ⟨rfl, rfl, rfl⟩ := hcs
      exact ⟨zs, .inr ⟨_, rfl, hl, hm, by simpa using hz, hcell, hwz⟩⟩
  clear hA0 hval0
  refine (walk a0 len0 cap0 z0 W w0).mono fun e W' ⟨he, bel⟩ => ?_
  subst he
  exact ⟨_, rfl, _, _, _, [], _, [], hW', trodAll_mk1 (shut_bool Try.underlying4 _), (trodAll_cons_mk (Below.trod laidOut (by kernel_rfl) (of_decide_eq_true (by kernel_rfl)) k0 bel lt0) trodAll_mk0), rfl, bel.frame _, fun h => by cases h⟩

theorem over : Rows.fnExactJoinPathRow.holds Try.pinned (OpenSpec.ofChange Rows.fnExactJoinPathSpec) :=
  OpenClaim.holds_of_wide 8 Try.f8 rfl rfl rfl rfl rfl rfl rfl ⟨rfl, rfl, rfl, rfl, rfl⟩ rfl rfl rfl rfl rfl (by kernel_rfl) Try.func8 (by kernel_rfl)
    (of_decide_eq_true (by kernel_rfl)) (by unfold Func.isWrapper; first | (rw [if_pos (by decide +kernel)]; kernel_rfl) | (rw [if_neg (by decide +kernel)]; exact ⟨rfl, rfl⟩))
    (fun os started H enc _ => lifted os started H enc)

/-- ████ THE STATEMENT ████ -/
theorem proved : Rows.FnExactJoinPathSaid := over
#print axioms proved
end Go.Proofs.Ytgdloohafkanhaa.fnExactJoinPath
