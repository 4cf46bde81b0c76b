/-
  Proved: for every slice of bytes the law FnSums answers true and leaves its argument as it was; no condition.
  The frame (all but the walk) is the text that the guide's own program writes for this row.
-/
import Derived.Test.YtmobjhkolonaeaaRows
import Derived.Test.YtmobjhkolonaeaaSums
import Derived.WalkKit
import Derived.ProofKit
import Derived.OpenShut
import Derived.ShutString
import Derived.ChangeOld
import Derived.Below
namespace Go.Proofs.Ytmobjhkolonaeaa.fnSums
open Go.ChangeShapes Go.WideShapes Go.ChangeAt Go.RowKit
open Go.ChangeMaps (open_string shut_string)
set_option linter.unusedVariables false

theorem own : ownKnob Try.prog.godebug = none := by kernel_rfl
theorem laidOut : laidOutB Try.prog = true := by kernel_rfl

/-- WHAT THE WALK IS TOLD OF A SLICE OF INTEGERS THAT CAME IN: it is nil; or it leads to a row of 'cap' cells, the numbers 'zs' (the first 'len' are its elements, the rest its spare room), each fitting its kind. -/
def IsRow (k : IntKind) (w : World) (a : Option Addr) (len cap : Nat) (zs : List Int) : Prop :=
  (a = none ∧ len = 0 ∧ cap = 0 ∧ zs = []) ∨
  ∃ x, a = some x ∧ len ≤ cap ∧ cap ≤ maxLen ∧ zs.length = cap ∧ (∀ i, i < zs.length → w.cell? (x.add i) = some (.int k (zs.getD i 0))) ∧ ∀ n ∈ zs, (Lit.int k n).wf = true

/-! ### STEP 1: THE WALK: the Go text returns true, AND WRITES NOTHING THAT WAS THERE: 'Below w.heap.size w w'' (Derived/Below.lean: '.refl', '.alloc', '.drew', '.setCell' at a new block, '.trans'). Open each 'IsRow' by 'rcases' AHEAD of 'go_enter'; part every test ahead of the walk. -/
set_option maxHeartbeats 1600000 in
theorem walk (a0 : Option Addr) (len0 cap0 : Nat) (z0 : List Int) (w : World) (w0 : IsRow .u8 w a0 len0 cap0 z0) :
    Calls Try.prog 4 #[.slice a0 len0 cap0] w fun e w' => e = .returned (.bool true) ∧ Below w.heap.size w w' := by
  obtain ⟨zs, hn, hr, hb⟩ := rd_of_row w0
  clear w0
  have hn' : Hid (zs.length = len0) := hn
  clear hn
  by_cases hbig : 1048576 < len0
  · have hd : decide ((1048576 : Int) < (len0 : Int)) = true := by simp; omega
    go_enter Try.func4, Try.ntmps4
    go_wp2_with fail
    refine (big_any a0 len0 cap0 w).mono ?_
    rintro e w' ⟨rfl, rfl⟩
    rw [hd]
    go_wp2
    go_ret
    exact ⟨rfl, Below.refl _ _⟩
  · have hsm : len0 ≤ 1048576 := by omega
    have hd : decide ((1048576 : Int) < (len0 : Int)) = false := by simp; omega
    go_enter Try.func4, Try.ntmps4
    go_wp2_with fail
    refine (big_any a0 len0 cap0 w).mono ?_
    rintro e w' ⟨rfl, rfl⟩
    rw [hd]
    clear hd
    go_wp2_with fail
    refine (drawCrc_any a0 len0 cap0 zs _ hn'.out hsm hr hb).mono ?_
    rintro e w1 ⟨g1, m, c1, ys, rfl, hm1, hg1, hby1, ho1, B1⟩
    go_wp2_with (at_builtin; refine wpList_app _ rfl (.tmp 8) (.tmp 9) rfl g1 m c1 ys rfl (World.ownsRow.alloc ho1 _) ⟨w1.heap.size, 0, none⟩ 1 1 [5] rfl rfl (one_news w1 _) (by omega) (w1.heap.size + 1) (by simp) ?_; intro g c w2 ho2 hg2 ha2)
    have B2 : Below w'.heap.size w' w2 := gr_below (B1.alloc B1.size _) hg2 (by have := B1.size; simp; omega) hg1
    have hgw : w'.heap.size ≤ g := by have := B1.size; omega
    have hbY : Byt (ys ++ [5]) := hby1.append (by intro z hz; simp at hz; omega)
    have hlY : Hid ((ys ++ [5]).length = m + 1) := ho2.len
    clear ho1 hg2 ha2
    refine (implCrc_any _ (m + 1) c (ys ++ [5]) _ hlY.out (by omega) ho2.rd hbY).mono ?_
    rintro e w2' ⟨rfl, rfl⟩
    have hF := xor_lt32 (crcTo_lt _ hbY) (show 4294967295 < 4294967296 by omega)
    obtain ⟨R, hRe⟩ : ∃ R : Nat, crcTo (ys ++ [5]) ^^^ 4294967295 = R := ⟨_, rfl⟩
    rw [hRe] at hF ⊢
    have HRe : Hid (crcTo (ys ++ [5]) ^^^ 4294967295 = R) := hRe
    have hF' : (R : Int) ≤ 4294967295 := by omega
    clear hRe
    have hL : ∃ L : Nat, m + 1 = L := ⟨_, rfl⟩
    obtain ⟨L, hL⟩ := hL
    rw [hL] at ho2 ⊢
    have hL1 : 1 ≤ L := by omega
    have hL2 : L ≤ 10 := by omega
    have HL : Hid (m + 1 = L) := hL
    clear hL
    have hX2 := atVal_le zs len0 2 hb
    have hX3 := atVal_le zs len0 3 hb
    have hc2 : Hid (∀ w, Rd w a0 zs → Calls Try.prog 19 #[.slice a0 len0 cap0, .int .i64 2] w fun e w' => e = .returned (.int .i64 (atVal zs len0 2)) ∧ w' = w) := fun w h => at_any a0 len0 cap0 zs 2 w hn'.out hsm (by omega) h hb
    have hc3 : Hid (∀ w, Rd w a0 zs → Calls Try.prog 19 #[.slice a0 len0 cap0, .int .i64 3] w fun e w' => e = .returned (.int .i64 (atVal zs len0 3)) ∧ w' = w) := fun w h => at_any a0 len0 cap0 zs 3 w hn'.out hsm (by omega) h hb
    generalize atVal zs len0 2 = X2 at *
    generalize atVal zs len0 3 = X3 at *
    have hi : X2 % L < L := Nat.mod_lt _ (by omega)
    have hi1 : (X2 : Int) % (L : Int) < (L : Int) := by omega
    have hi0 : (0 : Int) ≤ (X2 : Int) % (L : Int) := Int.emod_nonneg _ (by omega)
    have hcell := World.ownsRow.cellAt ho2 (X2 % L) (by omega)
    have hfz := World.ownsRow.frozenAt ho2 (X2 % L)
    obtain ⟨Z, hZ, hZ1⟩ := byt_at hbY (X2 % L)
    have hcell' : w2'.cell? ⟨g, X2 % L, none⟩ = some (.int .u8 (Z : Int)) := by
      rw [hcell, ← hZ]; exact cells_getD _ _ (by rw [hlY.out, HL.out]; exact hi)
    have HZ : Hid ((ys ++ [5]).getD (X2 % L) 0 = (Z : Int)) := hZ
    clear hcell hZ
    have hRd : Rd w2'.drew a0 zs := (hr.keep B2).keep (Below.refl _ _).drew
    have HV : Hid (bits .xor .u8 (Z : Int) (2 ^ min (X3 % 8) 8 % 256) = ((Z ^^^ 2 ^ (X3 % 8) : Nat) : Int)) := flip_in Z (X3 % 8) (by omega) hZ1
    have hfl := flip_ne Z (X3 % 8) (by omega) hZ1
    have hoS : Own (w2'.setCell ⟨g, X2 % L, none⟩ (.int .u8 ((Z ^^^ 2 ^ (X3 % 8) : Nat) : Int))).drew g L c ((ys ++ [5]).set (X2 % L) ((Z ^^^ 2 ^ (X3 % 8) : Nat) : Int)) :=
      own_drew (own_stored ho2 (X2 % L) _)
    have hbS : Byt ((ys ++ [5]).set (X2 % L) ((Z ^^^ 2 ^ (X3 % 8) : Nat) : Int)) := by
      intro z hz
      rcases List.mem_or_eq_of_mem_set hz with h | h
      · exact hbY z h
      · omega
    have BS : Below w'.heap.size w' (w2'.setCell ⟨g, X2 % L, none⟩ (.int .u8 ((Z ^^^ 2 ^ (X3 % 8) : Nat) : Int))).drew := (B2.setCell (p := ⟨g, X2 % L, none⟩) hgw _).drew
    have hne : crcTo ((ys ++ [5]).set (X2 % L) ((Z ^^^ 2 ^ (X3 % 8) : Nat) : Int)) ≠ crcTo (ys ++ [5]) :=
      crc_turn _ hbY _ (by rw [hlY.out, HL.out]; exact hi) _ (by omega) (by omega) (by rw [HZ.out]; omega)
    have hR : (((crcTo ((ys ++ [5]).set (X2 % L) ((Z ^^^ 2 ^ (X3 % 8) : Nat) : Int)) ^^^ 4294967295 : Nat) : Int) == (R : Int)) = false := by rw [← HRe.out]; exact xor_ne hne
    have HR := hide' hR
    clear hne hfl hR
    have hcellB : w2'.cell? ⟨g, ((X2 : Int) % (L : Int)).toNat, none⟩ = some (.int .u8 (Z : Int)) := hcell'
    have hfzB : w2'.frozen? ⟨g, ((X2 : Int) % (L : Int)).toNat, none⟩ = false := hfz
    go_wp2
    go_region_with (first | (go_at_call_of 19 (Value.int IntKind.i64 2); refine (hc2.out _ hRd).mono ?_; rintro e w3 ⟨rfl, rfl⟩) | (go_at_call_of 19 (Value.int IntKind.i64 3); refine (hc3.out _ hRd).mono ?_; rintro e w3 ⟨rfl, rfl⟩))
    all_goals
      go_wp2_with fail
      rw [HV.out]
      refine (implCrc_any _ L c ((ys ++ [5]).set (X2 % L) ((Z ^^^ 2 ^ (X3 % 8) : Nat) : Int)) _ (by rw [List.length_set, hlY.out, HL.out]) (by omega) hoS.rd hbS).mono ?_
      rintro e w4 ⟨rfl, rfl⟩
      go_wp2
      go_ret
      exact ⟨ret_bool (by simp only [bne, HR.out, Bool.not_false]), BS⟩

/-! ### THE ROW's STEP: WRITTEN OUT: LEAVE IT -/
set_option maxRecDepth 100000 in
theorem lifted (os : Os) (started : os.Started) (H : Type) (enc : TypeId × Value → H) :
    ReturnsInHanded {} Try.checked os 4 .any (Rows.fnSumsSpec.pre6 enc Try.prog Try.f4 Rows.fnSumsRow.domain false) (Rows.fnSumsSpec.post enc Try.prog Try.f4 false true false false) := by
  refine returnsInHanded_of_change (C := Try.checked) own started (by kernel_rfl) Try.func4
    (ChangeSpec.witness6 (enc := enc) (C := Try.checked) false ⟨#[], #[.slice none 0 0], []⟩ 8 (by kernel_rfl) (by kernel_rfl) (by kernel_rfl) (by kernel_rfl)) ?_
  intro W base args ds gs before hval0 hW hcnd _
  have hval : ∀ (j : Nat) t v, Try.f4.params[j]? = some t → args[j]? = some v → Value.okWide Try.prog W .any base t v := hval0
  have hW' := hW
  obtain ⟨p, q, hA0, hV, rfl, hfz, hnd⟩ := hW
  have hA : DataW.TrodAll enc Try.prog W 0 (fun _ => true) true Try.f4.params.toList args.toList ds p := hA0
  rw [Try.params4] at hA hval
  obtain ⟨v0, vs0, d0, ds0, p0, q0, hargs, rfl, rfl, h0, r0⟩ := trodAll_cons hA
  obtain ⟨rfl, rfl, rfl⟩ := trodAll_nil r0
  obtain rfl : args = #[v0] := by cases args; simp_all
  obtain ⟨rfl, rfl⟩ := trodVars_none hV
  obtain ⟨a0, len0, cap0, rfl⟩ := okWide_slice Try.underlying22 (hval 0 22 v0 rfl rfl)
  have k0 := h0
  have lt0 : ∀ x ∈ p0, x.block < W.heap.size := by obtain ⟨m, hm⟩ := k0; exact DataW.trod_lt m _ _ _ hm
  obtain ⟨z0, w0⟩ : ∃ zs, IsRow .u8 W a0 len0 cap0 zs := by
    obtain ⟨fuel, hf⟩ := h0
    rcases open_ints Try.underlying22 Try.underlying5 (by kernel_rfl) hf with ⟨hcs, _⟩ | ⟨x, l, c, zs, hcs, _, hl, hm, hz, _, hcell, hwz⟩
    · simp [Value.cells] at hcs
      obtain ⟨rfl, rfl, rfl⟩ := hcs
      exact ⟨[], .inl ⟨rfl, rfl, rfl, rfl⟩⟩
    · simp [Value.cells] at hcs
      obtain ⟨rfl, rfl, rfl⟩ := hcs
      exact ⟨zs, .inr ⟨_, rfl, hl, hm, by simpa using hz, hcell, hwz⟩⟩
  clear hA0 hval0
  refine (walk a0 len0 cap0 z0 W w0).mono fun e W' ⟨he, bel⟩ => ?_
  subst he
  exact ⟨_, rfl, _, _, _, [], _, [], hW', trodAll_mk1 (shut_bool Try.underlying4 _), (trodAll_cons_mk (Below.trod laidOut (by kernel_rfl) (of_decide_eq_true (by kernel_rfl)) k0 bel lt0) trodAll_mk0), rfl, bel.frame _, fun h => by cases h⟩

theorem over : Rows.fnSumsRow.holds Try.pinned (OpenSpec.ofChange Rows.fnSumsSpec) :=
  OpenClaim.holds_of_wide 4 Try.f4 rfl rfl rfl rfl rfl rfl rfl ⟨rfl, rfl, rfl, rfl, rfl⟩ rfl rfl rfl rfl rfl (by kernel_rfl) Try.func4 (by kernel_rfl)
    (of_decide_eq_true (by kernel_rfl)) (by unfold Func.isWrapper; first | (rw [if_pos (by decide +kernel)]; kernel_rfl) | (rw [if_neg (by decide +kernel)]; exact ⟨rfl, rfl⟩))
    (fun os started H enc _ => lifted os started H enc)

/-- ████ THE STATEMENT ████ -/
theorem proved : Rows.FnSumsSaid := over
#print axioms proved
end Go.Proofs.Ytmobjhkolonaeaa.fnSums
