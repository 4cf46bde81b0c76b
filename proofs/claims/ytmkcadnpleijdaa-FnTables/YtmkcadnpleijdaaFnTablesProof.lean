/-
  A drawn table of volumes that is right comes back of its bytes; what is read has these bytes.
  The frame (all but the walk) is the text that the guide's own program writes for this row.
-/
import Derived.Test.YtmkcadnpleijdaaRows
import Derived.Test.YtmkcadnpleijdaaTbPZ
import Derived.Test.YtmkcadnpleijdaaTbEY
import Derived.Test.YtmkcadnpleijdaaTbAV
import Derived.Test.YtmkcadnpleijdaaJ30U
import Derived.Test.YtmkcadnpleijdaaJ29U
import Derived.Test.YtmkcadnpleijdaaJ25U
import Derived.WalkKit
import Derived.ProofKit
import Derived.OpenShut
import Derived.ShutString
import Derived.ChangeOld
import Derived.Below
namespace Go.Proofs.Ytmkcadnpleijdaa.fnTables
open Go.ChangeShapes Go.WideShapes Go.ChangeAt Go.RowKit
open Go.ChangeMaps (open_string shut_string)
set_option linter.unusedVariables false

theorem own : ownKnob Try.prog.godebug = none := by kernel_rfl
theorem laidOut : laidOutB Try.prog = true := by kernel_rfl

/-- WHAT THE WALK IS TOLD OF A SLICE OF INTEGERS THAT CAME IN: it is nil; or it leads to a row of 'cap' cells, the numbers 'zs' (the first 'len' are its elements, the rest its spare room), each fitting its kind. -/
def IsRow (k : IntKind) (w : World) (a : Option Addr) (len cap : Nat) (zs : List Int) : Prop :=
  (a = none ∧ len = 0 ∧ cap = 0 ∧ zs = []) ∨
  ∃ x, a = some x ∧ len ≤ cap ∧ cap ≤ maxLen ∧ zs.length = cap ∧ (∀ i, i < zs.length → w.cell? (x.add i) = some (.int k (zs.getD i 0))) ∧ ∀ n ∈ zs, (Lit.int k n).wf = true

/-! ### STEP 1: THE WALK: the Go text returns true, AND WRITES NOTHING THAT WAS THERE: 'Below w.heap.size w w'' (Derived/Below.lean: '.refl', '.alloc', '.drew', '.setCell' at a new block, '.trans'). Open each 'IsRow' by 'rcases' AHEAD of 'go_enter'; part every test ahead of the walk. -/
set_option maxRecDepth 100000 in
set_option maxHeartbeats 8000000 in
theorem walk (a0 : Option Addr) (len0 cap0 : Nat) (z0 : List Int) (w : World) (w0 : IsRow .u8 w a0 len0 cap0 z0) :
    Calls Try.prog 3 #[.slice a0 len0 cap0] w fun e w' => e = .returned (.bool true) ∧ Below w.heap.size w w' := by
  obtain ⟨zs, hn, hr, hb⟩ := rd_of_row w0
  clear w0
  by_cases hbig : 1048576 < len0
  · have hd : decide ((1048576 : Int) < (len0 : Int)) = true := by simp; omega
    go_enter Try.func3, Try.ntmps3
    go_wp2_with fail
    refine (big_any a0 len0 cap0 w).mono ?_
    rintro e w1 ⟨rfl, hw⟩
    obtain rfl := hw.symm
    rw [hd]
    go_wp2
    go_ret
    exact ⟨rfl, Below.refl _ _⟩
  have hd : decide ((1048576 : Int) < (len0 : Int)) = false := by simp; omega
  have hcM := drawPutTable_any a0 len0 cap0 zs w hn (by omega) hr hb
  have hcC := fun (W : World) (hB : Below w.heap.size w W) => drawGetTable_any a0 len0 cap0 zs W hn (by omega) (hr.keep hB) hb
  have HCC : Hid _ := hcC
  clear hn hr hb hcC
  go_enter Try.func3, Try.ntmps3
  go_wp2_with fail
  refine (big_any a0 len0 cap0 w).mono ?_
  rintro e w1 ⟨rfl, hw⟩
  obtain rfl := hw.symm
  rw [hd]
  clear hd hbig
  go_wp2_with fail
  refine hcM.mono ?_
  rintro e w1 ⟨nx, a, c, ps, rfl, hl, hnm, ho, B1⟩
  clear hcM
  have hpr := rowR_wr ho (by omega) hnm
  have henc := t_enc (nx := nx) (ps := ps)
  have hpl : Hid ((tbPut nx ps).length ≤ 212) := tbPut_len nx ps
  have hpb := tbPut_byt nx ps
  have hpe : tbB nx ps = true → tbPut nx ps = tbEnc nx ps := fun h => by unfold tbPut; rw [if_pos h]
  have hpn : tbB nx ps = false → (tbPut nx ps).length = 0 := fun h => by unfold tbPut; rw [h]; rfl
  have CO := fun (W : World) (h : WR W a ps.length ps) => tableOkI nx a ps.length c ps W h
  have CQ := fun (W : World) (h : WR W a ps.length ps) => tableOkS nx a ps.length c ps W h
  have CP := putTableIC nx a ps.length c ps
  have b1 : Below w1.heap.size w1 (w1.alloc (.cells #[.int .i64 nx, .slice a ps.length c] 26)) := (Below.refl _ w1).alloc (Nat.le_refl _) _
  have z1 := Blk.new w1 26 #[.int .i64 nx, .slice a ps.length c]
  have B2 := B1.trans (b1.mono B1.size)
  have pr2 := hpr.keep b1
  obtain ⟨n, hnl⟩ : ∃ n, ps.length = n := ⟨_, rfl⟩
  rw [hnl] at z1 hl CO CQ CP b1 B2 pr2 ⊢
  have HNL : Hid (ps.length = n) := hnl
  obtain ⟨Y, hY⟩ : ∃ Y, tbPut nx ps = Y := ⟨_, rfl⟩
  rw [hY] at CP hpl hpb hpe hpn
  obtain ⟨m, hm⟩ : ∃ m, Y.length = m := ⟨_, rfl⟩
  rw [hm] at CP hpl hpn
  have HM : Hid (Y.length = m) := hm
  have HPB : Hid (Byt Y) := hpb
  obtain ⟨W2, hW2⟩ : ∃ W, w1.alloc (.cells #[.int .i64 nx, .slice a n c] 26) = W := ⟨_, rfl⟩
  obtain ⟨M, hMM⟩ : ∃ M, w1.heap.size = M := ⟨_, rfl⟩
  rw [hW2] at b1 z1 B2 pr2
  rw [hMM] at z1
  obtain ⟨q0, q1⟩ := z1.duo
  have Henc : Hid _ := henc
  have Hpe : Hid _ := hpe
  have Hpn : Hid _ := hpn
  have HNM : Hid _ := hnm
  clear ho hpr b1 B1 hnm henc hpe hpn hpb hm hY hnl
  go_wp2_with fail
  try rw [hW2]
  try rw [hMM]
  clear hW2 hMM
  have HCO : Hid _ := CO
  have HCQ : Hid _ := CQ
  clear CO CQ
  refine (CP W2 pr2).mono ?_
  rintro e w3 ⟨b, d, rfl, rb3, hbd, b3⟩
  have B3 := B2.trans (b3.mono B2.size)
  have pr3 := pr2.keep b3
  have z3 := z1.keep b3
  clear q0 q1 pr2 z1 b3 B2
  have hcC := HCC.out w3 B3
  go_wp2_with fail
  refine hcC.mono ?_
  rintro e w4 ⟨g, m4, c4, ys, rfl, hg, o4, hby, hm4, b4⟩
  have B4 := B3.trans (b4.mono B3.size)
  have pr4 := pr3.keep b4
  have z4 := z3.keep b4
  have rb4 := RowB.keep rb3 b4
  have hc4 := own_cap o4
  have hyl := o4.len
  have CI := fun (W : World) (ho : Own W g m4 c4 ys) => getTableIO (some ⟨g, 0, none⟩) m4 c4 ys W hyl (by omega) hc4 ho.rd hby
  have CS := fun (W : World) (ho : Own W g m4 c4 ys) => getTableSO (some ⟨g, 0, none⟩) m4 c4 ys W hyl (by omega) hc4 ho.rd hby
  have hform := t_form hby
  have hql := tgQs_len ys
  have hqn : ∀ r ∈ tgQs ys, r.name.size ≤ 1048576 := fun r hr => by have := tgQs_nm ys r hr; omega
  have HYL : Hid (ys.length = m4) := hyl
  obtain ⟨ny, hny⟩ : ∃ k, tgNx ys = k := ⟨_, rfl⟩
  obtain ⟨qs, hqs⟩ : ∃ k, tgQs ys = k := ⟨_, rfl⟩
  obtain ⟨ok, hok⟩ : ∃ k, tgOk ys = k := ⟨_, rfl⟩
  rw [hny, hqs, hok] at CI CS
  rw [hny, hqs, hok] at hform
  rw [hqs] at hql hqn
  have CO2 := fun (W : World) (a : Option Addr) (cc : Nat) (h : WR W a qs.length qs) => tableOkI ny a qs.length cc qs W h
  have CP2 := fun (W : World) (a : Option Addr) (cc : Nat) (h : WR W a qs.length qs) => putTableI ny a qs.length cc qs W h
  obtain ⟨nq, hnq⟩ : ∃ k, qs.length = k := ⟨_, rfl⟩
  rw [hnq] at CI CS CO2 CP2 hql
  have HF : Hid _ := hform
  clear hby hyl hny hqs hok hform rb3 pr3 z3 b4 B3 hcC HCC hnq
  go_wp2_with fail
  refine (CI w4 o4).mono ?_
  rintro e w5 ⟨⟨a5, c5, rfl, ry5, _⟩, b5⟩
  have bA : Below w5.heap.size w5 (w5.alloc (.cells #[.int .i64 ny, .slice a5 nq c5] 26)) := (Below.refl _ w5).alloc (Nat.le_refl _) _
  have y5 := Blk.new w5 26 #[.int .i64 ny, .slice a5 nq c5]
  have b6 := b5.trans (bA.mono b5.size)
  have B6 := B4.trans (b6.mono B4.size)
  have o6 := o4.keep b6 o4.lt
  have ry6 : WR _ a5 nq qs := (OwnRw.wr ry5 (by omega) hqn).keep bA
  have pr6 := pr4.keep b6
  have z6 := z4.keep b6
  have rb6 := RowB.keep rb4 b6
  obtain ⟨W6, hW6⟩ : ∃ W, w5.alloc (.cells #[.int .i64 ny, .slice a5 nq c5] 26) = W := ⟨_, rfl⟩
  rw [hW6] at bA y5 b6 B6 o6 ry6 pr6 z6 rb6
  obtain ⟨T, hT⟩ : ∃ T, w5.heap.size = T := ⟨_, rfl⟩
  rw [hT] at y5
  clear o4 ry5 bA b5 b6 B4 pr4 z4 rb4
  go_wp2_with fail
  try rw [hW6]
  try rw [hT]
  clear hW6 hT
  refine (CS W6 o6).mono ?_
  rintro e w7 ⟨⟨a7, c7, rfl, _, _⟩, b7⟩
  have bA : Below w7.heap.size w7 (w7.alloc (.cells #[.int .i64 ny, .slice a7 nq c7] 26)) := (Below.refl _ w7).alloc (Nat.le_refl _) _
  have b8 := b7.trans (bA.mono b7.size)
  have B8 := B6.trans (b8.mono B6.size)
  have o8 := o6.keep b8 o6.lt
  have y8 : Blk _ T 26 _ := y5.keep b8
  have ry8 := ry6.keep b8
  have pr8 := pr6.keep b8
  have z8 := z6.keep b8
  have rb8 := RowB.keep rb6 b8
  obtain ⟨W8, hW8⟩ : ∃ W, w7.alloc (.cells #[.int .i64 ny, .slice a7 nq c7] 26) = W := ⟨_, rfl⟩
  rw [hW8] at bA b8 B8 o8 y8 ry8 pr8 z8 rb8
  obtain ⟨t0, t1⟩ := y8.duo
  have hoo : (ok != ok) = false := by simp
  clear o6 ry6 y5 bA b7 b8 B6 pr6 z6 rb6 CI CS
  go_upto_region 8 with fail
  try rw [hW8]
  clear hW8
  go_cut [48] (fun s wx => s = .bool false ∧ Below W8.heap.size W8 wx)
  case first =>
    cases ok
    · go_wp2_with fail
      go_meet
      exact ⟨rfl, Below.refl _ _⟩
    · obtain ⟨hr1, hr2⟩ := HF.out rfl
      rw [hr2] at CP2
      rw [hr1] at CO2
      rw [HYL.out] at CP2
      clear hr1 hr2
      go_wp2_with fail
      refine (CO2 W8 _ _ ry8).mono ?_
      rintro e w9 ⟨rfl, b9⟩
      have o9 := o8.keep b9 o8.lt
      have y9 : Blk _ T 26 _ := y8.keep b9
      have ry9 := ry8.keep b9
      clear t0 t1
      obtain ⟨t0, t1⟩ := y9.duo
      go_wp2_with fail
      refine (CP2 w9 _ _ ry9).mono ?_
      rintro e w10 ⟨a10, d10, rfl, r10, _, b10⟩
      have o10 := o9.keep b10 o9.lt
      have b10' := b9.trans (b10.mono b9.size)
      go_wp2_with fail
      refine (sameL_any a10 (some ⟨g, 0, none⟩) m4 m4 d10 c4 ys ys w10 HYL.out HYL.out (by omega) (by omega) r10.rd o10.rd).mono ?_
      rintro e w11 ⟨rfl, dd, rfl⟩
      have hbb : decide (ys = ys) = true := by simp
      rw [hbb]
      clear hbb
      go_wp2_with fail
      go_meet
      exact ⟨rfl, below_drewN b10' dd⟩
  case rest =>
  obtain ⟨rfl, b9⟩ := hcut
  obtain ⟨w9, hwc⟩ : ∃ W, W = wc := ⟨_, rfl⟩
  subst hwc
  have B9 := B8.trans (b9.mono B8.size)
  have pr9 := pr8.keep b9
  have z9 := z8.keep b9
  have rb9 := RowB.keep rb8 b9
  obtain ⟨q0, q1⟩ := z9.duo
  clear o8 y8 ry8 pr8 z8 rb8 b9 B8 t0 t1 CO2 CP2 HF HYL hoo
  go_wp2_with fail
  refine (HCQ.out w9 pr9).mono ?_
  rintro e w10 ⟨rfl, b10⟩
  have B10 := B9.trans (b10.mono B9.size)
  have pr10 := pr9.keep b10
  have z10 := z9.keep b10
  have rb10 := RowB.keep rb9 b10
  clear q0 q1 pr9 z9 rb9 b10 B9 HCQ
  obtain ⟨q0, q1⟩ := z10.duo
  obtain ⟨ob, hob⟩ : ∃ ob, tbB nx ps = ob := ⟨_, rfl⟩
  have CO := HCO.out
  clear HCO
  rw [hob] at CO ⊢
  cases ob with
  | false =>
    have hm0 := Hpn.out hob
    subst hm0
    clear hob
    go_wp2_with fail
    refine (CO w10 pr10).mono ?_
    rintro e w11 ⟨rfl, b11⟩
    go_wp2
    go_ret
    exact ⟨rfl, B10.trans (b11.mono B10.size)⟩
  | true =>
    obtain ⟨he1, he2, he3⟩ := Henc.out hob
    rw [← Hpe.out hob] at he1 he2 he3
    have CI := getTableIO b m d Y w10 HM.out (by have := hpl.out; omega) hbd rb10.rd HPB.out
    rw [he1, he2, he3, HNL.out] at CI
    clear he1 he2 he3 hob Henc Hpe Hpn HPB
    go_wp2_with fail
    refine CI.mono ?_
    rintro e w11 ⟨⟨a11, c11, rfl, rx, _⟩, b11⟩
    have bA : Below w11.heap.size w11 (w11.alloc (.cells #[.int .i64 nx, .slice a11 n c11] 26)) := (Below.refl _ w11).alloc (Nat.le_refl _) _
    have x11 := Blk.new w11 26 #[.int .i64 nx, .slice a11 n c11]
    have b12 := b11.trans (bA.mono b11.size)
    have B12 : Hid _ := B10.trans (b12.mono B10.size)
    have px12 : WR _ a11 n ps := (OwnRw.wr rx (by omega) HNM.out).keep bA
    have pr12 := pr10.keep b12
    have z12 := z10.keep b12
    obtain ⟨W12, hW12⟩ : ∃ W, w11.alloc (.cells #[.int .i64 nx, .slice a11 n c11] 26) = W := ⟨_, rfl⟩
    rw [hW12] at bA x11 b12 B12 px12 pr12 z12
    obtain ⟨X, hX⟩ : ∃ X, w11.heap.size = X := ⟨_, rfl⟩
    rw [hX] at x11
    have HZ : Hid (Blk W12 M 26 #[.int .i64 nx, .slice a n c]) := z12
    have HX : Hid (Blk W12 X 26 #[.int .i64 nx, .slice a11 n c11]) := x11
    have HPX : Hid (WR W12 a11 n ps) := px12
    have HPR : Hid (WR W12 a n ps) := pr12
    clear q0 q1 rx pr10 z10 rb10 bA b11 b12 B10 CI
    have hm380 : ¬ (m : Int) > 380 := by have := hpl.out; omega
    have hm380b : ¬ (380 : Int) < (m : Int) := by omega
    have hnn : (nx != nx) = false := by simp
    have hnn2 : ((n : Int) != (n : Int)) = false := by simp
    obtain ⟨m0, m1⟩ := z12.duo
    obtain ⟨y0, y1⟩ := x11.duo
    clear z12 x11 px12 pr12
    go_upto_region 13 with fail
    try rw [hW12]
    try rw [hX]
    clear hW12 hX
    go_wp2
    go_loopw [12] (fun i wr => ∃ k : Nat, k ≤ n ∧ i = .int .i64 k ∧ Hid (Below W12.heap.size W12 wr)) (fun i _ => n - (intOf i).toNat)
    case atStart => exact ⟨0, Nat.zero_le _, rfl, Below.refl _ _⟩
    case round =>
      obtain ⟨k, hk, rfl, hB⟩ := hrel
      clear m0 m1 y0 y1
      by_cases hkn : k < n
      · have hki : (k : Int) < (n : Int) := by omega
        have hBD : Hid (Below W12.heap.size W12 wr.drew) := hB.out.drew
        obtain ⟨m0', m1'⟩ := (HZ.out.keep hB.out).duo
        obtain ⟨m0, m1⟩ := (HZ.out.keep hBD.out).duo
        obtain ⟨y0, y1⟩ := (HX.out.keep hBD.out).duo
        obtain ⟨bb, off, r, rfl, hlt, hrk, c0, c1, c2, c3, c4⟩ := (HPR.out.keep hBD.out).some hkn
        obtain ⟨bb2, off2, r2, rfl, hlt2, hrk2, d0, d1, d2, d3, d4⟩ := (HPX.out.keep hBD.out).some hkn
        obtain rfl : r2 = r := by rw [hrk] at hrk2; simpa using hrk2.symm
        obtain ⟨x0, x1, x2, x3, x4⟩ := r2
        dsimp only at c0 c1 c2 c3 c4 d0 d1 d2 d3 d4
        have hneq := neqRow_same x0 x1 x2 x3 x4
        have hgd := guardRow .neq
        clear hrk hrk2 hB m0
        go_upto_region 18 with fail
        clear m0' m1'
        go_region_held3 (fun W : World => W.cell? ⟨M, 1, none⟩ = some (.slice (some ⟨bb, off, none⟩) n c) ∧ W.cell? ⟨X, 1, none⟩ = some (.slice (some ⟨bb2, off2, none⟩) n c11) ∧ W.cell? ⟨bb, off + k * 5, none⟩ = some (.int .i64 x0) ∧ W.cell? ⟨bb, off + k * 5 + 1, none⟩ = some (.string x1) ∧ W.cell? ⟨bb, off + k * 5 + 2, none⟩ = some (.bool x2) ∧ W.cell? ⟨bb, off + k * 5 + 3, none⟩ = some (.int .i64 x3) ∧ W.cell? ⟨bb, off + k * 5 + 4, none⟩ = some (.int .i64 x4) ∧ W.cell? ⟨bb2, off2 + k * 5, none⟩ = some (.int .i64 x0) ∧ W.cell? ⟨bb2, off2 + k * 5 + 1, none⟩ = some (.string x1) ∧ W.cell? ⟨bb2, off2 + k * 5 + 2, none⟩ = some (.bool x2) ∧ W.cell? ⟨bb2, off2 + k * 5 + 3, none⟩ = some (.int .i64 x3) ∧ W.cell? ⟨bb2, off2 + k * 5 + 4, none⟩ = some (.int .i64 x4)) (exact ⟨m1, y1, c0, c1, c2, c3, c4, d0, d1, d2, d3, d4⟩) (fail)
        all_goals (clear m1 y1 c0 c1 c2 c3 c4 d0 d1 d2 d3 d4)
        all_goals go_wp2
        all_goals go_roundw
        all_goals first
          | (case rel => exact ⟨k + 1, by omega, by go_num, hBD⟩)
          | (case rel => (repeat apply Exists.intro); exact ⟨⟨k + 1, by omega, by go_num, hBD⟩, rfl⟩)
          | (case measure => simp [intOf]; omega)
      · have hki : ¬ (k : Int) < (n : Int) := by omega
        obtain ⟨m0, m1⟩ := (HZ.out.keep hB.out).duo
        have hcO := CO wr (HPR.out.keep hB.out)
        clear HPX
        go_wp2_with fail
        refine hcO.mono ?_
        rintro e w13 ⟨rfl, b13⟩
        have hB13 := hB.out.trans (b13.mono hB.out.size)
        clear m0 m1 hcO
        go_wp2
        go_ret
        exact ⟨rfl, B12.out.trans (hB13.mono B12.out.size)⟩

/-! ### THE ROW's STEP: WRITTEN OUT: LEAVE IT -/
set_option maxRecDepth 100000 in
theorem lifted (os : Os) (started : os.Started) (H : Type) (enc : TypeId × Value → H) :
    ReturnsInHanded {} Try.checked os 3 .any (Rows.fnTablesSpec.pre6 enc Try.prog Try.f3 Rows.fnTablesRow.domain false) (Rows.fnTablesSpec.post enc Try.prog Try.f3 false true false false) := by
  refine returnsInHanded_of_change (C := Try.checked) own started (by kernel_rfl) Try.func3
    (ChangeSpec.witness6 (enc := enc) (C := Try.checked) false ⟨#[], #[.slice none 0 0], []⟩ 8 (by kernel_rfl) (by kernel_rfl) (by kernel_rfl) (by kernel_rfl)) ?_
  intro W base args ds gs before hval0 hW hcnd _
  have hval : ∀ (j : Nat) t v, Try.f3.params[j]? = some t → args[j]? = some v → Value.okWide Try.prog W .any base t v := hval0
  have hW' := hW
  obtain ⟨p, q, hA0, hV, rfl, hfz, hnd⟩ := hW
  have hA : DataW.TrodAll enc Try.prog W 0 (fun _ => true) true Try.f3.params.toList args.toList ds p := hA0
  rw [Try.params3] at hA hval
  obtain ⟨v0, vs0, d0, ds0, p0, q0, hargs, rfl, rfl, h0, r0⟩ := trodAll_cons hA
  obtain ⟨rfl, rfl, rfl⟩ := trodAll_nil r0
  obtain rfl : args = #[v0] := by cases args; simp_all
  obtain ⟨rfl, rfl⟩ := trodVars_none hV
  obtain ⟨a0, len0, cap0, rfl⟩ := okWide_slice Try.underlying22 (hval 0 22 v0 rfl rfl)
  have k0 := h0
  have lt0 : ∀ x ∈ p0, x.block < W.heap.size := by obtain ⟨m, hm⟩ := k0; exact DataW.trod_lt m _ _ _ hm
  obtain ⟨z0, w0⟩ : ∃ zs, IsRow .u8 W a0 len0 cap0 zs := by
    obtain ⟨fuel, hf⟩ := h0
    rcases open_ints Try.underlying22 Try.underlying5 (by kernel_rfl) hf with ⟨hcs, _⟩ | ⟨x, l, c, zs, hcs, _, hl, hm, hz, _, hcell, hwz⟩
    · simp [Value.cells] at hcs
      obtain ⟨rfl, rfl, rfl⟩ := hcs
      exact ⟨[], .inl ⟨rfl, rfl, rfl, rfl⟩⟩
    · simp [Value.cells] at hcs
      obtain ⟨rfl, rfl, rfl⟩ := hcs
      exact ⟨zs, .inr ⟨_, rfl, hl, hm, by simpa using hz, hcell, hwz⟩⟩
  clear hA0 hval0
  refine (walk a0 len0 cap0 z0 W w0).mono fun e W' ⟨he, bel⟩ => ?_
  subst he
  exact ⟨_, rfl, _, _, _, [], _, [], hW', trodAll_mk1 (shut_bool Try.underlying4 _), (trodAll_cons_mk (Below.trod laidOut (by kernel_rfl) (of_decide_eq_true (by kernel_rfl)) k0 bel lt0) trodAll_mk0), rfl, bel.frame _, fun h => by cases h⟩

theorem over : Rows.fnTablesRow.holds Try.pinned (OpenSpec.ofChange Rows.fnTablesSpec) :=
  OpenClaim.holds_of_wide 3 Try.f3 rfl rfl rfl rfl rfl rfl rfl ⟨rfl, rfl, rfl, rfl, rfl⟩ rfl rfl rfl rfl rfl (by kernel_rfl) Try.func3 (by kernel_rfl)
    (of_decide_eq_true (by kernel_rfl)) (by unfold Func.isWrapper; first | (rw [if_pos (by decide +kernel)]; kernel_rfl) | (rw [if_neg (by decide +kernel)]; exact ⟨rfl, rfl⟩))
    (fun os started H enc _ => lifted os started H enc)

/-- ████ THE STATEMENT ████ -/
theorem proved : Rows.FnTablesSaid := over
#print axioms proved
end Go.Proofs.Ytmkcadnpleijdaa.fnTables
