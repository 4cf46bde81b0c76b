/-
  The law FnExactPutText, at every argument.
  The frame (all but the walk) is the text that the guide's own program writes for this row.
-/
import Derived.Test.YtbidiicccfkanaaRows
import Derived.Test.YtbidiicccfkanaaPutText
import Derived.WalkKit
import Derived.ProofKit
import Derived.OpenShut
import Derived.ShutString
import Derived.ChangeOld
import Derived.Below
namespace Go.Proofs.Ytbidiicccfkanaa.fnExactPutText
open Go.ChangeShapes Go.WideShapes Go.ChangeAt Go.RowKit
open Go.ChangeMaps (open_string shut_string)
set_option linter.unusedVariables false

theorem own : ownKnob Try.prog.godebug = none := by kernel_rfl
theorem laidOut : laidOutB Try.prog = true := by kernel_rfl

/-- WHAT THE WALK IS TOLD OF A SLICE OF INTEGERS THAT CAME IN: it is nil; or it leads to a row of 'cap' cells, the numbers 'zs' (the first 'len' are its elements, the rest its spare room), each fitting its kind. -/
def IsRow (k : IntKind) (w : World) (a : Option Addr) (len cap : Nat) (zs : List Int) : Prop :=
  (a = none ∧ len = 0 ∧ cap = 0 ∧ zs = []) ∨
  ∃ x, a = some x ∧ len ≤ cap ∧ cap ≤ maxLen ∧ zs.length = cap ∧ (∀ i, i < zs.length → w.cell? (x.add i) = some (.int k (zs.getD i 0))) ∧ ∀ n ∈ zs, (Lit.int k n).wf = true

/-! ### STEP 1: THE WALK: the Go text returns true, AND WRITES NOTHING THAT WAS THERE: 'Below w.heap.size w w'' (Derived/Below.lean: '.refl', '.alloc', '.drew', '.setCell' at a new block, '.trans'). Open each 'IsRow' by 'rcases' AHEAD of 'go_enter'; part every test ahead of the walk. -/
set_option maxHeartbeats 1600000 in
theorem walk (a0 : Option Addr) (len0 cap0 : Nat) (z0 : List Int) (a1 : ByteArray) (w : World) (w0 : IsRow .u8 w a0 len0 cap0 z0) (w1 : a1.size ≤ maxLen) :
    Calls Try.prog 6 #[.slice a0 len0 cap0, .string a1] w fun e w' => e = .returned (.bool true) ∧ Below w.heap.size w w' := by
  obtain ⟨zs, hn, hr, hb⟩ := rd_of_row w0
  clear w0
  unfold maxLen at w1
  have hn' : Hid (zs.length = len0) := hn
  clear hn
  by_cases hbig : 1048576 < len0
  · have : (1048576 : Int) < (len0 : Int) := by omega
    go_enter Try.func6, Try.ntmps6
    go_wp2
    go_ret
    exact ⟨rfl, Below.refl _ _⟩
  by_cases hbig2 : 1048576 < a1.size
  · have : ¬ (1048576 : Int) < (len0 : Int) := by omega
    have : (1048576 : Int) < (a1.size : Int) := by omega
    go_enter Try.func6, Try.ntmps6
    go_wp2
    go_ret
    exact ⟨rfl, Below.refl _ _⟩
  · have hsm : len0 ≤ 1048576 := by omega
    have hsm2 : a1.size ≤ 1048576 := by omega
    have : ¬ (1048576 : Int) < (len0 : Int) := by omega
    have : ¬ (1048576 : Int) < (a1.size : Int) := by omega
    have hle := enc_len (a1.size : Int)
    have hY : Hid ((zs ++ enc (a1.size : Int) ++ strZ a1).length = len0 + (enc (a1.size : Int)).length + a1.size) := by unfold Hid; rw [List.length_append, List.length_append, hn'.out, strZ_len]
    go_enter Try.func6, Try.ntmps6
    go_wp2_with fail
    refine (toByteS_any a0 len0 cap0 zs _ hn'.out hsm hr).mono ?_
    rintro e w1 ⟨rfl, ho1, hb1⟩
    go_wp2_with fail
    refine (specPutText_any _ len0 len0 zs a1 _ hn'.out (by omega) (by omega) ho1.rd).mono ?_
    rintro e w2 ⟨gw, cw, rfl, hgw, oW, hb2⟩
    generalize hL : len0 + (enc (a1.size : Int)).length + a1.size = L at *
    have HL : Hid (len0 + (enc (a1.size : Int)).length + a1.size = L) := hL
    have hLs : L ≤ 2097160 := by omega
    clear hL
    have B2 := hb1.trans (hb2.mono hb1.size)
    go_wp2_with fail
    refine (toByteS_any a0 len0 cap0 zs _ hn'.out hsm (hr.keep B2)).mono ?_
    rintro e w3 ⟨rfl, oX, hb3⟩
    have B3 := B2.trans (hb3.mono B2.size)
    have oW3 := oW.keep hb3 oW.lt
    have gwx := oW.lt
    go_wp2_with fail
    refine (implPutText_any _ len0 len0 zs a1 _ hn'.out (by omega) (by omega) oX.rd).mono ?_
    rintro e w4 ⟨gg, cg, rfl, hgg, oG, hb4⟩
    rw [HL.out] at oG ⊢
    have B4 := B3.trans (hb4.mono B3.size)
    have oW4 := oW3.keep hb4 oW3.lt
    have oX4 := oX.keep hb4 oX.lt
    have gxg : w2.heap.size < gg := by have := oX.lt; omega
    clear oW oW3 oX ho1 hb1 hb2 hb3 hb4
    go_wp2_with fail
    refine (eqByteS_true _ _ L cg cw (zs ++ enc (a1.size : Int) ++ strZ a1) _ hY.out (by omega) oG.rd oW4.rd).mono ?_
    rintro e w5 ⟨rfl, hb5⟩
    have B5 := B4.trans (hb5.mono B4.size)
    have oW5 := oW4.keep hb5 oW4.lt
    have oX5 := oX4.keep hb5 oX4.lt
    have oG5 := oG.keep hb5 oG.lt
    clear oW4 oX4 oG hb5
    go_wp2_with fail
    refine (toByteS_any a0 len0 cap0 zs _ hn'.out hsm (hr.keep B5)).mono ?_
    rintro e w6 ⟨rfl, oC, hb6⟩
    have B6 := B5.trans (hb6.mono B5.size)
    have oW6 := oW5.keep hb6 oW5.lt
    have oX6 := oX5.keep hb6 oX5.lt
    have oG6 := oG5.keep hb6 oG5.lt
    clear oW5 oX5 oG5 hb6
    go_wp2_with fail
    refine (eqByteS_true _ _ len0 len0 len0 zs _ hn'.out (by omega) oX6.rd oC.rd).mono ?_
    rintro e w7 ⟨rfl, hb7⟩
    have B7 := B6.trans (hb7.mono B6.size)
    have oW7 := oW6.keep hb7 oW6.lt
    have oX7 := oX6.keep hb7 oX6.lt
    have oG7 := oG6.keep hb7 oG6.lt
    clear oW6 oX6 oG6 hb7 oC
    go_wp2_with fail
    refine (mark_any _ len0 len0 zs _ (by omega) oX7).mono ?_
    rintro e w8 ⟨rfl, oX8, hg8⟩
    have B8 : Below w.heap.size w w8 := B7.grown hg8 B7.size (by intro k hk; simp at hk; have := B2.size; omega)
    have oW8 := oW7.kept hg8 (by omega)
    have oG8 := oG7.kept hg8 (by omega)
    clear oW7 oX7 oG7 hg8
    go_wp2_with fail
    refine (eqByteS_true _ _ L cg cw (zs ++ enc (a1.size : Int) ++ strZ a1) _ hY.out (by omega) oG8.rd oW8.rd).mono ?_
    rintro e w9 ⟨rfl, hb9⟩
    have B9 := B8.trans (hb9.mono B8.size)
    have oW9 := oW8.keep hb9 oW8.lt
    have oG9 := oG8.keep hb9 oG8.lt
    clear oW8 oG8 hb9
    go_wp2_with fail
    refine (mark_any _ L cg _ _ (by omega) oG9).mono ?_
    rintro e w10 ⟨rfl, oG10, hg10⟩
    have B10 : Below w.heap.size w w10 := B9.grown hg10 B9.size (by intro k hk; simp at hk; have := B2.size; omega)
    have oW10 := oW9.kept hg10 (by omega)
    clear oW9 oG9 hg10
    go_wp2_with fail
    refine (held_any _ L cg _ (by omega) oG10).mono ?_
    rintro e w10' ⟨rfl, rfl⟩
    go_wp2_with fail
    refine (toByteS_any a0 len0 cap0 zs _ hn'.out hsm (hr.keep B10)).mono ?_
    rintro e w11 ⟨rfl, oC, hb11⟩
    have B11 := B10.trans (hb11.mono B10.size)
    have oW11 := oW10.keep hb11 oW10.lt
    have oG11 := oG10.keep hb11 oG10.lt
    clear oW10 oG10 hb11
    go_wp2_with fail
    refine (implPutText_any _ len0 len0 zs a1 _ hn'.out (by omega) (by omega) oC.rd).mono ?_
    rintro e w12 ⟨gh, ch, rfl, hgh, oH, hb12⟩
    rw [HL.out] at oH ⊢
    have B12 := B11.trans (hb12.mono B11.size)
    have oW12 := oW11.keep hb12 oW11.lt
    have oG12 := oG11.keep hb12 oG11.lt
    clear oW11 oG11 hb12
    go_wp2_with fail
    refine (eqByteS_true _ _ L ch cw (zs ++ enc (a1.size : Int) ++ strZ a1) _ hY.out (by omega) oH.rd oW12.rd).mono ?_
    rintro e w13 ⟨rfl, hb13⟩
    have B13 := B12.trans (hb13.mono B12.size)
    have oG13 := oG12.keep hb13 oG12.lt
    clear oW12 oG12 hb13
    go_wp2_with fail
    refine (held_any _ L cg _ (by omega) oG13).mono ?_
    rintro e w13' ⟨rfl, rfl⟩
    go_wp2
    go_ret
    exact ⟨rfl, B13⟩

/-! ### THE ROW's STEP: WRITTEN OUT: LEAVE IT -/
set_option maxRecDepth 100000 in
theorem lifted (os : Os) (started : os.Started) (H : Type) (enc : TypeId × Value → H) :
    ReturnsInHanded {} Try.checked os 6 .any (Rows.fnExactPutTextSpec.pre6 enc Try.prog Try.f6 Rows.fnExactPutTextRow.domain false) (Rows.fnExactPutTextSpec.post enc Try.prog Try.f6 false true false false) := by
  refine returnsInHanded_of_change (C := Try.checked) own started (by kernel_rfl) Try.func6
    (ChangeSpec.witness6 (enc := enc) (C := Try.checked) false ⟨#[], #[.slice none 0 0, .string ByteArray.empty], []⟩ 8 (by kernel_rfl) (by kernel_rfl) (by kernel_rfl) (by kernel_rfl)) ?_
  intro W base args ds gs before hval0 hW hcnd _
  have hval : ∀ (j : Nat) t v, Try.f6.params[j]? = some t → args[j]? = some v → Value.okWide Try.prog W .any base t v := hval0
  have hW' := hW
  obtain ⟨p, q, hA0, hV, rfl, hfz, hnd⟩ := hW
  have hA : DataW.TrodAll enc Try.prog W 0 (fun _ => true) true Try.f6.params.toList args.toList ds p := hA0
  rw [Try.params6] at hA hval
  obtain ⟨v0, vs0, d0, ds0, p0, q0, hargs, rfl, rfl, h0, r0⟩ := trodAll_cons hA
  obtain ⟨v1, vs1, d1, ds1, p1, q1, rfl, rfl, rfl, h1, r1⟩ := trodAll_cons r0
  obtain ⟨rfl, rfl, rfl⟩ := trodAll_nil r1
  obtain rfl : args = #[v0, v1] := by cases args; simp_all
  obtain ⟨rfl, rfl⟩ := trodVars_none hV
  obtain ⟨a0, len0, cap0, rfl⟩ := okWide_slice Try.underlying22 (hval 0 22 v0 rfl rfl)
  have k0 := h0
  have lt0 : ∀ x ∈ p0, x.block < W.heap.size := by obtain ⟨m, hm⟩ := k0; exact DataW.trod_lt m _ _ _ hm
  obtain ⟨z0, w0⟩ : ∃ zs, IsRow .u8 W a0 len0 cap0 zs := by
    obtain ⟨fuel, hf⟩ := h0
    rcases open_ints Try.underlying22 Try.underlying5 (by kernel_rfl) hf with ⟨hcs, _⟩ | ⟨x, l, c, zs, hcs, _, hl, hm, hz, _, hcell, hwz⟩
    · simp [Value.cells] at hcs
      obtain ⟨rfl, rfl, rfl⟩ := hcs
      exact ⟨[], .inl ⟨rfl, rfl, rfl, rfl⟩⟩
    · simp [Value.cells] at hcs
      obtain ⟨rfl, rfl, rfl⟩ := hcs
      exact ⟨zs, .inr ⟨_, rfl, hl, hm, by simpa using hz, hcell, hwz⟩⟩
  obtain ⟨a1, rfl, rfl, rfl, w1⟩ := open_string Try.underlying9 (hval 1 9 v1 rfl rfl) h1
  clear hA0 hval0
  refine (walk a0 len0 cap0 z0 a1 W w0 w1).mono fun e W' ⟨he, bel⟩ => ?_
  subst he
  exact ⟨_, rfl, _, _, _, [], _, [], hW', trodAll_mk1 (shut_bool Try.underlying4 _), (trodAll_cons_mk (Below.trod laidOut (by kernel_rfl) (of_decide_eq_true (by kernel_rfl)) k0 bel lt0) (trodAll_cons_mk (shut_string Try.underlying9 w1) trodAll_mk0)), rfl, bel.frame _, fun h => by cases h⟩

theorem over : Rows.fnExactPutTextRow.holds Try.pinned (OpenSpec.ofChange Rows.fnExactPutTextSpec) :=
  OpenClaim.holds_of_wide 6 Try.f6 rfl rfl rfl rfl rfl rfl rfl ⟨rfl, rfl, rfl, rfl, rfl⟩ rfl rfl rfl rfl rfl (by kernel_rfl) Try.func6 (by kernel_rfl)
    (of_decide_eq_true (by kernel_rfl)) (by unfold Func.isWrapper; first | (rw [if_pos (by decide +kernel)]; kernel_rfl) | (rw [if_neg (by decide +kernel)]; exact ⟨rfl, rfl⟩))
    (fun os started H enc _ => lifted os started H enc)

/-- ████ THE STATEMENT ████ -/
theorem proved : Rows.FnExactPutTextSaid := over
#print axioms proved
end Go.Proofs.Ytbidiicccfkanaa.fnExactPutText
