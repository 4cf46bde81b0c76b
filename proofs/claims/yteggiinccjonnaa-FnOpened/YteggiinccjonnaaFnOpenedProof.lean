/-
  The block that a drawn log writes to next has room, and is not bad; where there is none there is no more than what is spared.
  The frame (all but the walk) is the text that the guide's own program writes for this row.
-/
import Derived.Test.YteggiinccjonnaaRows
import Derived.Test.YteggiinccjonnaaJ33O
import Derived.WalkKit
import Derived.ProofKit
import Derived.OpenShut
import Derived.ShutString
import Derived.ChangeOld
import Derived.Below
namespace Go.Proofs.Yteggiinccjonnaa.fnOpened
open Go.ChangeShapes Go.WideShapes Go.ChangeAt Go.RowKit
open Go.ChangeMaps (open_string shut_string)
set_option linter.unusedVariables false

theorem own : ownKnob Try.prog.godebug = none := by kernel_rfl
theorem laidOut : laidOutB Try.prog = true := by kernel_rfl

/-- WHAT THE WALK IS TOLD OF A SLICE OF INTEGERS THAT CAME IN: it is nil; or it leads to a row of 'cap' cells, the numbers 'zs' (the first 'len' are its elements, the rest its spare room), each fitting its kind. -/
def IsRow (k : IntKind) (w : World) (a : Option Addr) (len cap : Nat) (zs : List Int) : Prop :=
  (a = none ∧ len = 0 ∧ cap = 0 ∧ zs = []) ∨
  ∃ x, a = some x ∧ len ≤ cap ∧ cap ≤ maxLen ∧ zs.length = cap ∧ (∀ i, i < zs.length → w.cell? (x.add i) = some (.int k (zs.getD i 0))) ∧ ∀ n ∈ zs, (Lit.int k n).wf = true

/-! ### STEP 1: THE WALK: the Go text returns true, AND WRITES NOTHING THAT WAS THERE: 'Below w.heap.size w w'' (Derived/Below.lean: '.refl', '.alloc', '.drew', '.setCell' at a new block, '.trans'). Open each 'IsRow' by 'rcases' AHEAD of 'go_enter'; part every test ahead of the walk. -/
set_option maxRecDepth 100000 in
set_option maxHeartbeats 8000000 in
theorem walk (a0 : Option Addr) (len0 cap0 : Nat) (z0 : List Int) (w : World) (w0 : IsRow .u8 w a0 len0 cap0 z0) :
    Calls Try.prog 3 #[.slice a0 len0 cap0] w fun e w' => e = .returned (.bool true) ∧ Below w.heap.size w w' := by
  obtain ⟨zs, hn, hr, hb⟩ := rd_of_row w0
  clear w0
  by_cases hbig : 1048576 < len0
  · have hd : decide ((1048576 : Int) < (len0 : Int)) = true := by simp; omega
    go_enter Try.func3, Try.ntmps3
    go_wp2_with fail
    refine (big_any a0 len0 cap0 w).mono ?_
    rintro e w1 ⟨rfl, hw⟩
    obtain rfl := hw.symm
    rw [hd]
    go_wp2
    go_ret
    exact ⟨rfl, Below.refl _ _⟩
  have hd : decide ((1048576 : Int) < (len0 : Int)) = false := by simp; omega
  have hcO := drawOpenBlock_any a0 len0 cap0 zs w hn (by omega) hr hb
  clear hn hr hb
  go_enter Try.func3, Try.ntmps3
  go_wp2_with fail
  refine (big_any a0 len0 cap0 w).mono ?_
  rintro e w1 ⟨rfl, hw⟩
  obtain rfl := hw.symm
  rw [hd]
  clear hd hbig
  go_wp2_with fail
  refine hcO.mono ?_
  rintro e w1 ⟨va, vn, vc, op, fa, m, fc, dn, seq, sp, qs, fs, rfl, hs1, hs2, ac, hpv, af, hm, b1⟩
  have b2 : Below w1.heap.size w1 (w1.alloc (.cells #[.slice va vn vc, .int .i64 op, .slice fa m fc, .bool dn, .int .i64 seq] 31)) := (Below.refl _ _).alloc (Nat.le_refl _) _
  have B2 := b1.trans (b2.mono b1.size)
  have z2 := Blk.new w1 31 #[.slice va vn vc, .int .i64 op, .slice fa m fc, .bool dn, .int .i64 seq]
  have cr2 := ac.cr.keep b2
  have hnl := cr2.len
  have hnb := cr2.n
  have hno := fun (h : openD (qs.map BkR.D) sp = -1) => open_none h
  have hso := fun (h : openD (qs.map BkR.D) sp ≠ -1) => open_some hpv h
  have CI := fun (W : World) (h : CR W va vn qs) => openI va vn vc qs op fa m fc dn seq sp W h
  have CS := fun (W : World) (h : CR W va vn qs) => openS va vn vc qs op fa m fc dn seq sp W h
  have CF := fun (W : World) (h : CR W va vn qs) => freeI va vn vc qs op fa m fc dn seq W h
  have CG := fun (W : World) (h : CR W va vn qs) => freeS va vn vc qs op fa m fc dn seq W h
  have CN := fun (W : World) (h : CR W va vn qs) (x : Int) => nextI va vn vc qs x W h
  obtain ⟨O, hO⟩ : ∃ O, openD (qs.map BkR.D) sp = O := ⟨_, rfl⟩
  obtain ⟨N, hN⟩ : ∃ N, freeD (qs.map BkR.D) = N := ⟨_, rfl⟩
  rw [hO] at hno hso CI CS
  rw [hN] at hno hso CF CG
  have HNO : Hid _ := hno
  have HSO : Hid _ := hso
  have HNL : Hid (qs.length = vn) := hnl
  have HCI : Hid _ := CI
  have HCS : Hid _ := CS
  have HCF : Hid _ := CF
  have HCG : Hid _ := CG
  have HCN : Hid _ := CN
  obtain ⟨q0, q1, q2, q3, q4⟩ := z2.log
  obtain ⟨W2, hW2⟩ : ∃ W, w1.alloc (.cells #[.slice va vn vc, .int .i64 op, .slice fa m fc, .bool dn, .int .i64 seq] 31) = W := ⟨_, rfl⟩
  rw [hW2] at B2 z2 cr2 q0 q1 q2 q3 q4
  obtain ⟨X, hX⟩ : ∃ X, w1.heap.size = X := ⟨_, rfl⟩
  rw [hX] at z2 q0 q1 q2 q3 q4
  clear CI CS CF CG CN hno hso hO hN b1 b2 ac af hpv hnl hm
  go_wp2_with fail
  try rw [hW2]
  try rw [hX]
  clear hW2 hX
  refine (HCI.out W2 cr2).mono ?_
  rintro e w3 ⟨rfl, b3⟩
  have B3 := B2.trans (b3.mono B2.size)
  have z3 := z2.keep b3
  have cr3 := cr2.keep b3
  obtain ⟨d0, d1, d2, d3, d4⟩ := z3.log
  clear q0 q1 q2 q3 q4 B2 b3 z2 cr2
  go_wp2_with fail
  refine (HCF.out w3 cr3).mono ?_
  rintro e w4 ⟨rfl, b4⟩
  have B4 := B3.trans (b4.mono B3.size)
  have z4 := z3.keep b4
  have cr4 := cr3.keep b4
  obtain ⟨q0, q1, q2, q3, q4⟩ := z4.log
  clear d0 d1 d2 d3 d4 B3 b4 z3 cr3
  go_wp2_with fail
  refine (HCS.out w4 cr4).mono ?_
  rintro e w5 ⟨rfl, b5⟩
  have B5 := B4.trans (b5.mono B4.size)
  have z5 := z4.keep b5
  have cr5 := cr4.keep b5
  obtain ⟨d0, d1, d2, d3, d4⟩ := z5.log
  clear q0 q1 q2 q3 q4 B4 b5 z4 cr4
  go_wp2_with fail
  refine (HCG.out w5 cr5).mono ?_
  rintro e w6 ⟨rfl, b6⟩
  have B6 := B5.trans (b6.mono B5.size)
  have z6 := z5.keep b6
  have cr6 := cr5.keep b6
  obtain ⟨q0, q1, q2, q3, q4⟩ := z6.log
  clear d0 d1 d2 d3 d4 B5 b6 z5 cr5
  by_cases hO : O = -1
  · subst hO
    have hno := HNO.out rfl
    by_cases h1 : (N : Int) ≤ sp
    · go_wp2
      go_ret
      exact ⟨rfl, B6⟩
    · have h2 : N = 0 := by rcases hno with h | h <;> omega
      subst h2
      go_wp2
      go_ret
      exact ⟨rfl, B6⟩
  · obtain ⟨k, r, rfl, hk, hbad, hnx, hor⟩ := HSO.out hO
    have hkn : k < vn := by rw [← HNL.out]; exact (List.getElem?_eq_some_iff.1 hk).1
    have hki : (k : Int) < (vn : Int) := by omega
    have hkm : ¬ (k : Int) = -1 := by omega
    have hkb : ((k : Int) == -1) = false := by simp
    have hcn := HCN.out w6 cr6 (k : Int)
    rw [nextD_in hk] at hcn
    obtain ⟨q, hq⟩ : ∃ q, nextP (r.ps.map PgR.D) = q := ⟨_, rfl⟩
    rw [hq] at hcn hnx hor
    clear hq hO
    go_wp2_with fail
    refine hcn.mono ?_
    rintro e w7 ⟨rfl, b7⟩
    have B7 := B6.trans (b7.mono B6.size)
    have z7 := z6.keep b7
    have cr7 := cr6.keep b7
    obtain ⟨d0, d1, d2, d3, d4⟩ := z7.log
    obtain ⟨b, off, r2, rfl, hlt, hk2, x3, _, _⟩ := cr7.some hkn
    have hrr : r2 = r := by rw [hk] at hk2; exact (Option.some.inj hk2).symm
    subst hrr
    obtain ⟨x0, x1, x2⟩ := x3
    rw [hbad] at x2
    have hqi : (0 : Int) ≤ (q : Int) := by omega
    have hql : (q : Int) < (r2.ps.length : Int) := by omega
    clear q0 q1 q2 q3 q4 B6 b7 z6 cr6 cr7 z7 hk hk2 hcn
    by_cases hq0 : 0 < q
    · have hqp : (0 : Int) < (q : Int) := by omega
      go_wp2
      go_ret
      exact ⟨rfl, B7⟩
    · have hqp : ¬ (0 : Int) < (q : Int) := by omega
      have hsn : sp < (N : Int) := by rcases hor with h | h <;> omega
      go_wp2
      go_ret
      exact ⟨rfl, B7⟩

/-! ### THE ROW's STEP: WRITTEN OUT: LEAVE IT -/
set_option maxRecDepth 100000 in
theorem lifted (os : Os) (started : os.Started) (H : Type) (enc : TypeId × Value → H) :
    ReturnsInHanded {} Try.checked os 3 .any (Rows.fnOpenedSpec.pre6 enc Try.prog Try.f3 Rows.fnOpenedRow.domain false) (Rows.fnOpenedSpec.post enc Try.prog Try.f3 false true false false) := by
  refine returnsInHanded_of_change (C := Try.checked) own started (by kernel_rfl) Try.func3
    (ChangeSpec.witness6 (enc := enc) (C := Try.checked) false ⟨#[], #[.slice none 0 0], []⟩ 8 (by kernel_rfl) (by kernel_rfl) (by kernel_rfl) (by kernel_rfl)) ?_
  intro W base args ds gs before hval0 hW hcnd _
  have hval : ∀ (j : Nat) t v, Try.f3.params[j]? = some t → args[j]? = some v → Value.okWide Try.prog W .any base t v := hval0
  have hW' := hW
  obtain ⟨p, q, hA0, hV, rfl, hfz, hnd⟩ := hW
  have hA : DataW.TrodAll enc Try.prog W 0 (fun _ => true) true Try.f3.params.toList args.toList ds p := hA0
  rw [Try.params3] at hA hval
  obtain ⟨v0, vs0, d0, ds0, p0, q0, hargs, rfl, rfl, h0, r0⟩ := trodAll_cons hA
  obtain ⟨rfl, rfl, rfl⟩ := trodAll_nil r0
  obtain rfl : args = #[v0] := by cases args; simp_all
  obtain ⟨rfl, rfl⟩ := trodVars_none hV
  obtain ⟨a0, len0, cap0, rfl⟩ := okWide_slice Try.underlying22 (hval 0 22 v0 rfl rfl)
  have k0 := h0
  have lt0 : ∀ x ∈ p0, x.block < W.heap.size := by obtain ⟨m, hm⟩ := k0; exact DataW.trod_lt m _ _ _ hm
  obtain ⟨z0, w0⟩ : ∃ zs, IsRow .u8 W a0 len0 cap0 zs := by
    obtain ⟨fuel, hf⟩ := h0
    rcases open_ints Try.underlying22 Try.underlying5 (by kernel_rfl) hf with ⟨hcs, _⟩ | ⟨x, l, c, zs, hcs, _, hl, hm, hz, _, hcell, hwz⟩
    · simp [Value.cells] at hcs
      obtain ⟨rfl, rfl, rfl⟩ := hcs
      exact ⟨[], .inl ⟨rfl, rfl, rfl, rfl⟩⟩
    · simp [Value.cells] at hcs
      obtain ⟨rfl, rfl, rfl⟩ := hcs
      exact ⟨zs, .inr ⟨_, rfl, hl, hm, by simpa using hz, hcell, hwz⟩⟩
  clear hA0 hval0
  refine (walk a0 len0 cap0 z0 W w0).mono fun e W' ⟨he, bel⟩ => ?_
  subst he
  exact ⟨_, rfl, _, _, _, [], _, [], hW', trodAll_mk1 (shut_bool Try.underlying4 _), (trodAll_cons_mk (Below.trod laidOut (by kernel_rfl) (of_decide_eq_true (by kernel_rfl)) k0 bel lt0) trodAll_mk0), rfl, bel.frame _, fun h => by cases h⟩

theorem over : Rows.fnOpenedRow.holds Try.pinned (OpenSpec.ofChange Rows.fnOpenedSpec) :=
  OpenClaim.holds_of_wide 3 Try.f3 rfl rfl rfl rfl rfl rfl rfl ⟨rfl, rfl, rfl, rfl, rfl⟩ rfl rfl rfl rfl rfl (by kernel_rfl) Try.func3 (by kernel_rfl)
    (of_decide_eq_true (by kernel_rfl)) (by unfold Func.isWrapper; first | (rw [if_pos (by decide +kernel)]; kernel_rfl) | (rw [if_neg (by decide +kernel)]; exact ⟨rfl, rfl⟩))
    (fun os started H enc _ => lifted os started H enc)

/-- ████ THE STATEMENT ████ -/
theorem proved : Rows.FnOpenedSaid := over
#print axioms proved
end Go.Proofs.Yteggiinccjonnaa.fnOpened
