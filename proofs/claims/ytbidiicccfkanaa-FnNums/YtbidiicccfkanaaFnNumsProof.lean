/-
  The law FnNums: a drawn number, or the nearest that is kept, comes back of its bytes; a text does, too.
  The frame (all but the walk) is the text that the guide's own program writes for this row.
-/
import Derived.Test.YtbidiicccfkanaaRows
import Derived.Test.YtbidiicccfkanaaDraws
import Derived.WalkKit
import Derived.ProofKit
import Derived.OpenShut
import Derived.ShutString
import Derived.ChangeOld
import Derived.Below
namespace Go.Proofs.Ytbidiicccfkanaa.fnNums
open Go.ChangeShapes Go.WideShapes Go.ChangeAt Go.RowKit
open Go.ChangeMaps (open_string shut_string)
set_option linter.unusedVariables false

theorem own : ownKnob Try.prog.godebug = none := by kernel_rfl
theorem laidOut : laidOutB Try.prog = true := by kernel_rfl

/-- WHAT THE WALK IS TOLD OF A SLICE OF INTEGERS THAT CAME IN: it is nil; or it leads to a row of 'cap' cells, the numbers 'zs' (the first 'len' are its elements, the rest its spare room), each fitting its kind. -/
def IsRow (k : IntKind) (w : World) (a : Option Addr) (len cap : Nat) (zs : List Int) : Prop :=
  (a = none ∧ len = 0 ∧ cap = 0 ∧ zs = []) ∨
  ∃ x, a = some x ∧ len ≤ cap ∧ cap ≤ maxLen ∧ zs.length = cap ∧ (∀ i, i < zs.length → w.cell? (x.add i) = some (.int k (zs.getD i 0))) ∧ ∀ n ∈ zs, (Lit.int k n).wf = true

/-! ### STEP 1: THE WALK: the Go text returns true, AND WRITES NOTHING THAT WAS THERE: 'Below w.heap.size w w'' (Derived/Below.lean: '.refl', '.alloc', '.drew', '.setCell' at a new block, '.trans'). Open each 'IsRow' by 'rcases' AHEAD of 'go_enter'; part every test ahead of the walk. -/
set_option maxHeartbeats 1600000 in
theorem walk (a0 : Option Addr) (len0 cap0 : Nat) (z0 : List Int) (w : World) (w0 : IsRow .u8 w a0 len0 cap0 z0) :
    Calls Try.prog 3 #[.slice a0 len0 cap0] w fun e w' => e = .returned (.bool true) ∧ Below w.heap.size w w' := by
  obtain ⟨zs, hn, hr, hb⟩ := rd_of_row w0
  clear w0
  have hn' : Hid (zs.length = len0) := hn
  clear hn
  by_cases hbig : 1048576 < len0
  · have hd : decide ((1048576 : Int) < (len0 : Int)) = true := by simp; omega
    go_enter Try.func3, Try.ntmps3
    go_wp2_with fail
    refine (big_any a0 len0 cap0 w).mono ?_
    rintro e w' ⟨rfl, rfl⟩
    rw [hd]
    go_wp2
    go_ret
    exact ⟨rfl, Below.refl _ _⟩
  · have hsm : len0 ≤ 1048576 := by omega
    have hd : decide ((1048576 : Int) < (len0 : Int)) = false := by simp; omega
    go_enter Try.func3, Try.ntmps3
    go_wp2_with fail
    refine (big_any a0 len0 cap0 w).mono ?_
    rintro e w' ⟨rfl, rfl⟩
    rw [hd]
    clear hd
    go_wp2_with fail
    refine (drawPutNum_any a0 len0 cap0 zs _ hn'.out hsm hr hb).mono ?_
    rintro e w1 ⟨g1, m1, c1, ys, x, rfl, hm1, hg1, hby1, ho1, B1⟩
    go_wp2_with fail
    refine (implPutNum_any _ m1 c1 ys x _ ho1.len (by omega) ho1.rd).mono ?_
    rintro e w2 ⟨g2, c2, rfl, hg2, ho2, hb2⟩
    have B2 := B1.trans (hb2.mono B1.size)
    have hl1 : Hid (ys.length = m1) := ho1.len
    have hle := enc_len x
    have hcap2 : m1 + (enc x).length ≤ c2 := ho2.cap
    have hgn : Hid (gn (ys ++ enc x) (m1 : Int) = (clamp x, m1 + (enc x).length, true)) := by
      have := gn_enc ys [] x
      rw [List.append_nil, hl1.out] at this
      exact this
    have hcut : Hid (gn ((ys ++ enc x).take (m1 + (enc x).length - 1)) (m1 : Int) = (0, 0, false)) := by
      have := gn_cut ys x
      rw [hl1.out] at this
      exact this
    have hbE : Byt (ys ++ enc x) := hby1.append (enc_byt x)
    have he1 := enc_pos x
    go_wp2_with fail
    refine (implGetNum_any _ _ c2 (ys ++ enc x) (m1 : Int) _ ho2.len (by omega) hcap2 ho2.rd hbE).mono ?_
    rintro e w2' ⟨rfl, rfl⟩
    rw [hgn.out]
    unfold gnVal
    simp only
    have hN : ∃ N : Nat, clamp x = N := ⟨_, rfl⟩
    obtain ⟨N, hN⟩ := hN
    rw [hN]
    have HN : Hid (clamp x = N) := hN
    clear hN
    have hL : ∃ L : Nat, m1 + (enc x).length = L := ⟨_, rfl⟩
    obtain ⟨L, hL⟩ := hL
    rw [hL] at ho2 ⊢
    have hL2 : L ≤ 13 := by omega
    have hL3 : m1 + 1 ≤ L := by omega
    have hL4 : L ≤ c2 := by omega
    have HL : Hid (m1 + (enc x).length = L) := hL
    clear hL hcap2 hle he1
    rcases (show x < 0 ∨ (0 ≤ x ∧ x ≤ 1000000) ∨ 1000000 < x by omega) with hx | ⟨hx, hx1⟩ | hx
    · have hq : ((N : Int) == 0) = true := by
        have := HN.out
        unfold clamp at this
        rw [beq_iff_eq]; omega
      have hlt : ((ys ++ enc x).take (L - 1)).length = L - 1 := by have := ho2.len; rw [List.length_take]; omega
      go_wp2_with fail
      refine (implGetNum_any _ (L - 1) c2 ((ys ++ enc x).take (L - 1)) (m1 : Int) _ hlt (by omega) (by omega) (ho2.rd.take _) (hbE.take _)).mono ?_
      rintro e w3' ⟨rfl, rfl⟩
      rw [← HL.out, hcut.out, HL.out]
      clear hlt
      unfold gnVal
      simp only
      go_wp2_with fail
      refine (drawPutText_any a0 len0 cap0 zs _ hn'.out hsm (hr.keep B2) hb).mono ?_
      rintro e w4 ⟨g4, m4, c4, ys4, l, rfl, hm4, hg4, hby4, hbl, hl9, ho4, hb4⟩
      have B4 := B2.trans (hb4.mono B2.size)
      have hsz := str_size l
      have Hsz : Hid ((str l).size = l.length) := hsz
      clear hsz
      have hput := gt_put ys4 l hbl hl9
      have hl4 : Hid (ys4.length = m4) := ho4.len
      rw [hl4.out] at hput
      have HP : Hid (gtOf (ys4 ++ enc ((str l).size : Int) ++ strZ (str l)) (gn (ys4 ++ enc ((str l).size : Int) ++ strZ (str l)) (m4 : Int)) = (str l, m4 + (enc ((str l).size : Int)).length + (str l).size, true)) := hput
      clear hput
      have hss : (str l).size ≤ 9 := by rw [Hsz.out]; exact hl9
      have hle4 := enc_len ((str l).size : Int)
      generalize str l = s at *
      go_wp2_with fail
      refine (implPutText_any _ m4 c4 ys4 s _ ho4.len (by omega) (by omega) ho4.rd).mono ?_
      rintro e w5 ⟨g5, c5, rfl, hg5, ho5, hb5⟩
      have B5 := B4.trans (hb5.mono B4.size)
      have hcap5 := ho5.cap
      have hbQ : Byt (ys4 ++ enc (s.size : Int) ++ strZ s) := (hby4.append (enc_byt _)).append (strZ_byt s)
      go_wp2_with fail
      refine (implGetText_any _ _ c5 (ys4 ++ enc (s.size : Int) ++ strZ s) (m4 : Int) _ ho5.len (by omega) hcap5 ho5.rd hbQ).mono ?_
      rintro e w6' ⟨rfl, rfl⟩
      rw [HP.out]
      unfold gtVal
      simp only
      go_wp2
      go_ret
      exact ⟨rfl, B5⟩
    · have hq : ((N : Int) == x) = true := by
        have := HN.out
        unfold clamp at this
        rw [beq_iff_eq]; omega
      have hlt : ((ys ++ enc x).take (L - 1)).length = L - 1 := by have := ho2.len; rw [List.length_take]; omega
      go_wp2_with fail
      refine (implGetNum_any _ (L - 1) c2 ((ys ++ enc x).take (L - 1)) (m1 : Int) _ hlt (by omega) (by omega) (ho2.rd.take _) (hbE.take _)).mono ?_
      rintro e w3' ⟨rfl, rfl⟩
      rw [← HL.out, hcut.out, HL.out]
      clear hlt
      unfold gnVal
      simp only
      go_wp2_with fail
      refine (drawPutText_any a0 len0 cap0 zs _ hn'.out hsm (hr.keep B2) hb).mono ?_
      rintro e w4 ⟨g4, m4, c4, ys4, l, rfl, hm4, hg4, hby4, hbl, hl9, ho4, hb4⟩
      have B4 := B2.trans (hb4.mono B2.size)
      have hsz := str_size l
      have Hsz : Hid ((str l).size = l.length) := hsz
      clear hsz
      have hput := gt_put ys4 l hbl hl9
      have hl4 : Hid (ys4.length = m4) := ho4.len
      rw [hl4.out] at hput
      have HP : Hid (gtOf (ys4 ++ enc ((str l).size : Int) ++ strZ (str l)) (gn (ys4 ++ enc ((str l).size : Int) ++ strZ (str l)) (m4 : Int)) = (str l, m4 + (enc ((str l).size : Int)).length + (str l).size, true)) := hput
      clear hput
      have hss : (str l).size ≤ 9 := by rw [Hsz.out]; exact hl9
      have hle4 := enc_len ((str l).size : Int)
      generalize str l = s at *
      go_wp2_with fail
      refine (implPutText_any _ m4 c4 ys4 s _ ho4.len (by omega) (by omega) ho4.rd).mono ?_
      rintro e w5 ⟨g5, c5, rfl, hg5, ho5, hb5⟩
      have B5 := B4.trans (hb5.mono B4.size)
      have hcap5 := ho5.cap
      have hbQ : Byt (ys4 ++ enc (s.size : Int) ++ strZ s) := (hby4.append (enc_byt _)).append (strZ_byt s)
      go_wp2_with fail
      refine (implGetText_any _ _ c5 (ys4 ++ enc (s.size : Int) ++ strZ s) (m4 : Int) _ ho5.len (by omega) hcap5 ho5.rd hbQ).mono ?_
      rintro e w6' ⟨rfl, rfl⟩
      rw [HP.out]
      unfold gtVal
      simp only
      go_wp2
      go_ret
      exact ⟨rfl, B5⟩
    · have hq : ((N : Int) == 1000000) = true := by
        have := HN.out
        unfold clamp at this
        rw [beq_iff_eq]; omega
      have hlt : ((ys ++ enc x).take (L - 1)).length = L - 1 := by have := ho2.len; rw [List.length_take]; omega
      go_wp2_with fail
      refine (implGetNum_any _ (L - 1) c2 ((ys ++ enc x).take (L - 1)) (m1 : Int) _ hlt (by omega) (by omega) (ho2.rd.take _) (hbE.take _)).mono ?_
      rintro e w3' ⟨rfl, rfl⟩
      rw [← HL.out, hcut.out, HL.out]
      clear hlt
      unfold gnVal
      simp only
      go_wp2_with fail
      refine (drawPutText_any a0 len0 cap0 zs _ hn'.out hsm (hr.keep B2) hb).mono ?_
      rintro e w4 ⟨g4, m4, c4, ys4, l, rfl, hm4, hg4, hby4, hbl, hl9, ho4, hb4⟩
      have B4 := B2.trans (hb4.mono B2.size)
      have hsz := str_size l
      have Hsz : Hid ((str l).size = l.length) := hsz
      clear hsz
      have hput := gt_put ys4 l hbl hl9
      have hl4 : Hid (ys4.length = m4) := ho4.len
      rw [hl4.out] at hput
      have HP : Hid (gtOf (ys4 ++ enc ((str l).size : Int) ++ strZ (str l)) (gn (ys4 ++ enc ((str l).size : Int) ++ strZ (str l)) (m4 : Int)) = (str l, m4 + (enc ((str l).size : Int)).length + (str l).size, true)) := hput
      clear hput
      have hss : (str l).size ≤ 9 := by rw [Hsz.out]; exact hl9
      have hle4 := enc_len ((str l).size : Int)
      generalize str l = s at *
      go_wp2_with fail
      refine (implPutText_any _ m4 c4 ys4 s _ ho4.len (by omega) (by omega) ho4.rd).mono ?_
      rintro e w5 ⟨g5, c5, rfl, hg5, ho5, hb5⟩
      have B5 := B4.trans (hb5.mono B4.size)
      have hcap5 := ho5.cap
      have hbQ : Byt (ys4 ++ enc (s.size : Int) ++ strZ s) := (hby4.append (enc_byt _)).append (strZ_byt s)
      go_wp2_with fail
      refine (implGetText_any _ _ c5 (ys4 ++ enc (s.size : Int) ++ strZ s) (m4 : Int) _ ho5.len (by omega) hcap5 ho5.rd hbQ).mono ?_
      rintro e w6' ⟨rfl, rfl⟩
      rw [HP.out]
      unfold gtVal
      simp only
      go_wp2
      go_ret
      exact ⟨rfl, B5⟩

/-! ### THE ROW's STEP: WRITTEN OUT: LEAVE IT -/
set_option maxRecDepth 100000 in
theorem lifted (os : Os) (started : os.Started) (H : Type) (enc : TypeId × Value → H) :
    ReturnsInHanded {} Try.checked os 3 .any (Rows.fnNumsSpec.pre6 enc Try.prog Try.f3 Rows.fnNumsRow.domain false) (Rows.fnNumsSpec.post enc Try.prog Try.f3 false true false false) := by
  refine returnsInHanded_of_change (C := Try.checked) own started (by kernel_rfl) Try.func3
    (ChangeSpec.witness6 (enc := enc) (C := Try.checked) false ⟨#[], #[.slice none 0 0], []⟩ 8 (by kernel_rfl) (by kernel_rfl) (by kernel_rfl) (by kernel_rfl)) ?_
  intro W base args ds gs before hval0 hW hcnd _
  have hval : ∀ (j : Nat) t v, Try.f3.params[j]? = some t → args[j]? = some v → Value.okWide Try.prog W .any base t v := hval0
  have hW' := hW
  obtain ⟨p, q, hA0, hV, rfl, hfz, hnd⟩ := hW
  have hA : DataW.TrodAll enc Try.prog W 0 (fun _ => true) true Try.f3.params.toList args.toList ds p := hA0
  rw [Try.params3] at hA hval
  obtain ⟨v0, vs0, d0, ds0, p0, q0, hargs, rfl, rfl, h0, r0⟩ := trodAll_cons hA
  obtain ⟨rfl, rfl, rfl⟩ := trodAll_nil r0
  obtain rfl : args = #[v0] := by cases args; simp_all
  obtain ⟨rfl, rfl⟩ := trodVars_none hV
  obtain ⟨a0, len0, cap0, rfl⟩ := okWide_slice Try.underlying22 (hval 0 22 v0 rfl rfl)
  have k0 := h0
  have lt0 : ∀ x ∈ p0, x.block < W.heap.size := by obtain ⟨m, hm⟩ := k0; exact DataW.trod_lt m _ _ _ hm
  obtain ⟨z0, w0⟩ : ∃ zs, IsRow .u8 W a0 len0 cap0 zs := by
    obtain ⟨fuel, hf⟩ := h0
    rcases open_ints Try.underlying22 Try.underlying5 (by kernel_rfl) hf with ⟨hcs, _⟩ | ⟨x, l, c, zs, hcs, _, hl, hm, hz, _, hcell, hwz⟩
    · simp [Value.cells] at hcs
      obtain ⟨rfl, rfl, rfl⟩ := hcs
      exact ⟨[], .inl ⟨rfl, rfl, rfl, rfl⟩⟩
    · simp [Value.cells] at hcs
      obtain ⟨rfl, rfl, rfl⟩ := hcs
      exact ⟨zs, .inr ⟨_, rfl, hl, hm, by simpa using hz, hcell, hwz⟩⟩
  clear hA0 hval0
  refine (walk a0 len0 cap0 z0 W w0).mono fun e W' ⟨he, bel⟩ => ?_
  subst he
  exact ⟨_, rfl, _, _, _, [], _, [], hW', trodAll_mk1 (shut_bool Try.underlying4 _), (trodAll_cons_mk (Below.trod laidOut (by kernel_rfl) (of_decide_eq_true (by kernel_rfl)) k0 bel lt0) trodAll_mk0), rfl, bel.frame _, fun h => by cases h⟩

theorem over : Rows.fnNumsRow.holds Try.pinned (OpenSpec.ofChange Rows.fnNumsSpec) :=
  OpenClaim.holds_of_wide 3 Try.f3 rfl rfl rfl rfl rfl rfl rfl ⟨rfl, rfl, rfl, rfl, rfl⟩ rfl rfl rfl rfl rfl (by kernel_rfl) Try.func3 (by kernel_rfl)
    (of_decide_eq_true (by kernel_rfl)) (by unfold Func.isWrapper; first | (rw [if_pos (by decide +kernel)]; kernel_rfl) | (rw [if_neg (by decide +kernel)]; exact ⟨rfl, rfl⟩))
    (fun os started H enc _ => lifted os started H enc)

/-- ████ THE STATEMENT ████ -/
theorem proved : Rows.FnNumsSaid := over
#print axioms proved
end Go.Proofs.Ytbidiicccfkanaa.fnNums
