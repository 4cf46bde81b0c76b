/-
  A drawn log is right; of bent ones each is so just as the document has it.
  The frame (all but the walk) is the text that the guide's own program writes for this row.
-/
import Derived.Test.YtpejfkgbfdkdnaaRows
import Derived.Test.YtpejfkgbfdkdnaaJ39B
import Derived.Test.YtpejfkgbfdkdnaaLogOB
import Derived.WalkKit
import Derived.ProofKit
import Derived.OpenShut
import Derived.ShutString
import Derived.ChangeOld
import Derived.Below
namespace Go.Proofs.Ytpejfkgbfdkdnaa.fnLogsOk
open Go.ChangeShapes Go.WideShapes Go.ChangeAt Go.RowKit
open Go.ChangeMaps (open_string shut_string)
set_option linter.unusedVariables false

theorem own : ownKnob Try.prog.godebug = none := by kernel_rfl
theorem laidOut : laidOutB Try.prog = true := by kernel_rfl

/-- WHAT THE WALK IS TOLD OF A SLICE OF INTEGERS THAT CAME IN: it is nil; or it leads to a row of 'cap' cells, the numbers 'zs' (the first 'len' are its elements, the rest its spare room), each fitting its kind. -/
def IsRow (k : IntKind) (w : World) (a : Option Addr) (len cap : Nat) (zs : List Int) : Prop :=
  (a = none ∧ len = 0 ∧ cap = 0 ∧ zs = []) ∨
  ∃ x, a = some x ∧ len ≤ cap ∧ cap ≤ maxLen ∧ zs.length = cap ∧ (∀ i, i < zs.length → w.cell? (x.add i) = some (.int k (zs.getD i 0))) ∧ ∀ n ∈ zs, (Lit.int k n).wf = true

/-! ### STEP 1: THE WALK: the Go text returns true, AND WRITES NOTHING THAT WAS THERE: 'Below w.heap.size w w'' (Derived/Below.lean: '.refl', '.alloc', '.drew', '.setCell' at a new block, '.trans'). Open each 'IsRow' by 'rcases' AHEAD of 'go_enter'; part every test ahead of the walk. -/
/-- A log that can be read, and its box. -/
structure LK (W : World) (X : Nat) (va : Option Addr) (vn vc : Nat) (op : Int) (fa : Option Addr) (m fc : Nat) (dn : Bool) (seq : Int) (qs : List BkR) (fs : List FtD) : Prop where
  c : CR W va vn qs
  f : FR W fa m fs
  b : Blk W X 31 #[.slice va vn vc, .int .i64 op, .slice fa m fc, .bool dn, .int .i64 seq]
theorem LK.keep {W W' : World} {X : Nat} {va : Option Addr} {vn vc : Nat} {op : Int} {fa : Option Addr} {m fc : Nat} {dn : Bool} {seq : Int} {qs : List BkR} {fs : List FtD} (h : LK W X va vn vc op fa m fc dn seq qs fs) (hb : Below W.heap.size W W') : LK W' X va vn vc op fa m fc dn seq qs fs := ⟨h.c.keep hb, h.f.keep hb, h.b.keep hb⟩
theorem below_t {w w1 w2 : World} (h : Below w.heap.size w w1) (h2 : Below w1.heap.size w1 w2) : Below w.heap.size w w2 := h.trans (h2.mono h.size)
theorem at_kind {ds : List BkD} {x kd : Int} : (atOk ds x kd = true → (atRec ds x kd).kind = kd) ∧ (atOk ds x kd = false → (atRec ds x kd).kind = 0) := by
  constructor
  · intro h
    have h2 := h
    unfold atOk at h2
    simp only [Bool.and_eq_true, decide_eq_true_eq] at h2
    unfold atRec
    rw [if_pos h, h2.2]
  · intro h
    unfold atRec
    rw [if_neg (by rw [h]; decide)]

set_option maxRecDepth 100000 in
set_option maxHeartbeats 8000000 in
theorem walk (a0 : Option Addr) (len0 cap0 : Nat) (z0 : List Int) (w : World) (w0 : IsRow .u8 w a0 len0 cap0 z0) :
    Calls Try.prog 4 #[.slice a0 len0 cap0] w fun e w' => e = .returned (.bool true) ∧ Below w.heap.size w w' := by
  obtain ⟨zs, hn, hr, hb⟩ := rd_of_row w0
  clear w0
  by_cases hbig : 1048576 < len0
  · have hd : decide ((1048576 : Int) < (len0 : Int)) = true := by simp; omega
    go_enter Try.func4, Try.ntmps4
    go_wp2_with fail
    refine (big_any a0 len0 cap0 w).mono ?_
    rintro e w1 ⟨rfl, hw⟩
    obtain rfl := hw.symm
    rw [hd]
    go_wp2
    go_ret
    exact ⟨rfl, Below.refl _ _⟩
  have hd : decide ((1048576 : Int) < (len0 : Int)) = false := by simp; omega
  have hcL := drawLog_any a0 len0 cap0 zs w hn (by omega) hr hb
  have HK := fun (W : World) (hB : Below w.heap.size w W) => drawLogOk_any a0 len0 cap0 zs W hn (by omega) (hr.keep hB) hb
  have HR := fun (W : World) (hB : Below w.heap.size w W) => drawReadAt_any a0 len0 cap0 zs W hn (by omega) (hr.keep hB) hb
  have HHK : Hid _ := HK
  have HHR : Hid _ := HR
  clear hn hr hb HK HR
  go_enter Try.func4, Try.ntmps4
  go_wp2_with fail
  refine (big_any a0 len0 cap0 w).mono ?_
  rintro e w1 ⟨rfl, hw⟩
  obtain rfl := hw.symm
  rw [hd]
  clear hd hbig
  go_wp2_with fail
  refine hcL.mono ?_
  rintro e w1 ⟨D, seq, va, vn, vc, fa, m, fc, qs, gb, mb, cb, ys, rfl, hnd, hql, hok, hbt, hsq, _, _, _, _, _, b1⟩
  have hm : m ≤ 1048576 := by
    have h4 := (devB_parts.1 hok).2.2
    unfold faultsB at h4
    simp at h4
    have := OwnE.len hnd.fs
    omega
  have hf1 : FR w1 fa m D.fs := OwnFa.fr hnd.fs hm
  have hc1 : CR w1 va vn qs := hnd.cr hql (devB_tot hok)
  have CL := fun (W : World) (hc : CR W va vn qs) (hf : FR W fa m D.fs) => logOkI va vn vc qs D.ops fa m fc D.fs D.down seq W hc hf (by rw [hnd.bs.D]; exact hbt)
  rw [hnd.bs.D, hsq.1.lgB hok] at CL
  obtain ⟨op, hop⟩ : ∃ z, D.ops = z := ⟨_, rfl⟩
  obtain ⟨dn, hdn⟩ : ∃ z, D.down = z := ⟨_, rfl⟩
  obtain ⟨fs, hfs⟩ : ∃ z, D.fs = z := ⟨_, rfl⟩
  rw [hop, hdn, hfs] at CL
  rw [hfs] at hf1
  rw [hop, hdn]
  have HCL : Hid _ := CL
  clear CL hcL hnd hql hok hbt hsq hop hdn hfs hm
  have b2 : Below w1.heap.size w1 (w1.alloc (.cells #[.slice va vn vc, .int .i64 op, .slice fa m fc, .bool dn, .int .i64 seq] 31)) := (Below.refl _ _).alloc (Nat.le_refl _) _
  have l2 : LK (w1.alloc (.cells #[.slice va vn vc, .int .i64 op, .slice fa m fc, .bool dn, .int .i64 seq] 31)) w1.heap.size va vn vc op fa m fc dn seq qs fs := ⟨hc1.keep b2, hf1.keep b2, Blk.new w1 _ _⟩
  have B2 := b1.trans (b2.mono b1.size)
  clear b1 b2 hc1 hf1
  go_wp2_with fail
  obtain ⟨W2, hW2⟩ : ∃ W, w1.alloc (.cells #[.slice va vn vc, .int .i64 op, .slice fa m fc, .bool dn, .int .i64 seq] 31) = W := ⟨_, rfl⟩
  obtain ⟨X, hX⟩ : ∃ X, w1.heap.size = X := ⟨_, rfl⟩
  rw [hW2, hX] at l2
  rw [hW2] at B2 ⊢
  try rw [hX]
  clear hW2 hX
  refine (HHK.out W2 B2).mono ?_
  rintro e w3 ⟨vaB, vnB, vcB, opB, faB, mB, fcB, dnB, seqB, qsB, fsB, rfl, acB, hvB, afB, hmB, b3⟩
  have B3 := B2.trans (b3.mono B2.size)
  have b4 : Below w3.heap.size w3 (w3.alloc (.cells #[.slice vaB vnB vcB, .int .i64 opB, .slice faB mB fcB, .bool dnB, .int .i64 seqB] 31)) := (Below.refl _ _).alloc (Nat.le_refl _) _
  have B4 := B3.trans (b4.mono B3.size)
  have l4 := (l2.keep b3).keep b4
  have crB := acB.cr.keep b4
  have frB : FR _ faB mB fsB := FR.keep (afB w3 (fun _ _ _ => rfl)) b4
  have x4 : LK (w3.alloc (.cells #[.slice vaB vnB vcB, .int .i64 opB, .slice faB mB fcB, .bool dnB, .int .i64 seqB] 31)) w3.heap.size vaB vnB vcB opB faB mB fcB dnB seqB qsB fsB := ⟨crB, frB, Blk.new w3 _ _⟩
  have CI := fun (W : World) (hc : CR W vaB vnB qsB) (hf : FR W faB mB fsB) => logOkI vaB vnB vcB qsB opB faB mB fcB fsB dnB seqB W hc hf hvB.byt
  have CS := fun (W : World) (hc : CR W vaB vnB qsB) (hf : FR W faB mB fsB) => logOkS vaB vnB vcB qsB opB faB mB fcB fsB dnB seqB W hc hf hvB.byt hvB.caps
  obtain ⟨LB, hLB⟩ : ∃ z, lgB (qsB.map BkR.D) opB fsB seqB = z := ⟨_, rfl⟩
  rw [hLB] at CI CS
  have HCI : Hid _ := CI
  have HCS : Hid _ := CS
  clear CI CS hLB l2 b3 b4 B2 B3 acB hvB afB hmB crB frB
  go_wp2_with fail
  obtain ⟨W4, hW4⟩ : ∃ W, w3.alloc (.cells #[.slice vaB vnB vcB, .int .i64 opB, .slice faB mB fcB, .bool dnB, .int .i64 seqB] 31) = W := ⟨_, rfl⟩
  obtain ⟨Y, hY⟩ : ∃ X, w3.heap.size = X := ⟨_, rfl⟩
  rw [hW4, hY] at x4
  rw [hW4] at B4 l4 ⊢
  try rw [hY]
  clear hW4 hY
  refine (HHR.out W4 B4).mono ?_
  rintro e w5 ⟨vaC, vnC, vcC, opC, faC, mC, fcC, dnC, seqC, spC, kd, qsC, fsC, rfl, hs1, hs2, hkd, acC, hvC, afC, hmC, b5⟩
  have B5 := B4.trans (b5.mono B4.size)
  have b6 : Below w5.heap.size w5 (w5.alloc (.cells #[.slice vaC vnC vcC, .int .i64 opC, .slice faC mC fcC, .bool dnC, .int .i64 seqC] 31)) := (Below.refl _ _).alloc (Nat.le_refl _) _
  have B6 := B5.trans (b6.mono B5.size)
  have l6 := (l4.keep b5).keep b6
  have x6 := (x4.keep b5).keep b6
  have crC := acC.cr.keep b6
  have frC : FR _ faC mC fsC := FR.keep (afC w5 (fun _ _ _ => rfl)) b6
  have y6 : LK (w5.alloc (.cells #[.slice vaC vnC vcC, .int .i64 opC, .slice faC mC fcC, .bool dnC, .int .i64 seqC] 31)) w5.heap.size vaC vnC vcC opC faC mC fcC dnC seqC qsC fsC := ⟨crC, frC, Blk.new w5 _ _⟩
  have RI := fun (W : World) (hc : CR W vaC vnC qsC) => readAtI vaC vnC vcC qsC opC faC mC fcC dnC seqC spC (1 + (kd : Int)) W hc hvC.byt (by omega)
  have RS := fun (W : World) (hc : CR W vaC vnC qsC) => readAtS vaC vnC vcC qsC opC faC mC fcC dnC seqC spC (1 + (kd : Int)) W hc hvC.byt (by omega)
  have hak := @at_kind (qsC.map BkR.D) spC (1 + (kd : Int))
  obtain ⟨AO, hAO⟩ : ∃ z, atOk (qsC.map BkR.D) spC (1 + (kd : Int)) = z := ⟨_, rfl⟩
  obtain ⟨AR, hAR⟩ : ∃ z, atRec (qsC.map BkR.D) spC (1 + (kd : Int)) = z := ⟨_, rfl⟩
  rw [hAO, hAR] at RI RS hak
  obtain ⟨ak, asq, ab⟩ := AR
  obtain ⟨al, hal⟩ : ∃ z, ab.length = z := ⟨_, rfl⟩
  have HAL : Hid _ := hal
  dsimp only at hak
  have HRI : Hid _ := RI
  have HRS : Hid _ := RS
  clear RI RS hAO hAR hal l4 x4 b5 b6 B4 B5 acC hvC afC hmC crC frC
  go_wp2_with fail
  obtain ⟨W6, hW6⟩ : ∃ W, w5.alloc (.cells #[.slice vaC vnC vcC, .int .i64 opC, .slice faC mC fcC, .bool dnC, .int .i64 seqC] 31) = W := ⟨_, rfl⟩
  obtain ⟨Z, hZ⟩ : ∃ X, w5.heap.size = X := ⟨_, rfl⟩
  rw [hW6, hZ] at y6
  rw [hW6] at B6 l6 x6 ⊢
  try rw [hZ]
  clear hW6 hZ
  obtain ⟨q0, q1, q2, q3, q4⟩ := y6.b.log
  go_wp2_with fail
  refine (HRI.out W6 y6.c).mono ?_
  rintro e w7 ⟨⟨ga, gc, he, _, _⟩, b7⟩
  unfold recC at he
  dsimp only at he
  rw [HAL.out] at he
  subst he
  have B7 := B6.trans (b7.mono B6.size)
  have b8 : Below w7.heap.size w7 (w7.alloc (.cells #[.int .i64 ak, .int .i64 asq, .slice ga al gc] 46)) := (Below.refl _ _).alloc (Nat.le_refl _) _
  have r8 := Blk.new w7 46 #[.int .i64 ak, .int .i64 asq, .slice ga al gc]
  have l8 := (l6.keep b7).keep b8
  have x8 := (x6.keep b7).keep b8
  have y8 := (y6.keep b7).keep b8
  have B8 := B7.trans (b8.mono B7.size)
  clear q0 q1 q2 q3 q4 l6 x6 y6 b7 b8 B6 B7
  obtain ⟨q0, q1, q2, q3, q4⟩ := y8.b.log
  go_wp2_with fail
  obtain ⟨W8, hW8⟩ : ∃ W, w7.alloc (.cells #[.int .i64 ak, .int .i64 asq, .slice ga al gc] 46) = W := ⟨_, rfl⟩
  rw [hW8] at r8 l8 x8 y8 B8 q0 q1 q2 q3 q4
  try rw [hW8]
  obtain ⟨R, hR⟩ : ∃ X, w7.heap.size = X := ⟨_, rfl⟩
  rw [hR] at r8
  try rw [hR]
  clear hW8 hR
  refine (HRS.out W8 y8.c).mono ?_
  rintro e w9 ⟨⟨gaS, gcS, he, _, _⟩, b9⟩
  unfold recC at he
  dsimp only at he
  rw [HAL.out] at he
  subst he
  have B9 := B8.trans (b9.mono B8.size)
  have bA : Below w9.heap.size w9 (w9.alloc (.cells #[.int .i64 ak, .int .i64 asq, .slice gaS al gcS] 46)) := (Below.refl _ _).alloc (Nat.le_refl _) _
  have rA := (r8.keep b9).keep bA
  have lA := (l8.keep b9).keep bA
  have xA := (x8.keep b9).keep bA
  have BA := B9.trans (bA.mono B9.size)
  clear q0 q1 q2 q3 q4 l8 x8 y8 r8 b9 bA B8 B9
  have hBB : (LB == LB) = true := by simp
  have hOO : (AO == AO) = true := by simp
  have HAK : Hid _ := hak
  clear hak
  go_upto_region 8 with fail
  obtain ⟨W9, hW9⟩ : ∃ W, w9.alloc (.cells #[.int .i64 ak, .int .i64 asq, .slice gaS al gcS] 46) = W := ⟨_, rfl⟩
  rw [hW9] at rA lA xA BA
  try rw [hW9]
  clear hW9
  have C1 : Hid (∀ W : World, Below W9.heap.size W9 W → Calls Try.prog 17 #[.agg #[.slice va vn vc, .int .i64 op, .slice fa m fc, .bool dn, .int .i64 seq]] W fun e w' => e = .returned (.bool true) ∧ Below W.heap.size W w') := fun W hW => HCL.out W (lA.keep hW).c (lA.keep hW).f
  have C2 : Hid (∀ W : World, Below W9.heap.size W9 W → Calls Try.prog 17 #[.agg #[.slice vaB vnB vcB, .int .i64 opB, .slice faB mB fcB, .bool dnB, .int .i64 seqB]] W fun e w' => e = .returned (.bool LB) ∧ Below W.heap.size W w') := fun W hW => HCI.out W (xA.keep hW).c (xA.keep hW).f
  have C3 : Hid (∀ W : World, Below W9.heap.size W9 W → Calls Try.prog 18 #[.agg #[.slice vaB vnB vcB, .int .i64 opB, .slice faB mB fcB, .bool dnB, .int .i64 seqB]] W fun e w' => e = .returned (.bool LB) ∧ Below W.heap.size W w') := fun W hW => HCS.out W (xA.keep hW).c (xA.keep hW).f
  have HB : Hid _ := BA
  have hX0 : ∀ W : World, Below W9.heap.size W9 W → (fun W : World => W.cell? ⟨X, 0, none⟩ = some (.slice va vn vc) ∧ W.cell? ⟨X, 1, none⟩ = some (.int .i64 op) ∧ W.cell? ⟨X, 2, none⟩ = some (.slice fa m fc) ∧ W.cell? ⟨X, 3, none⟩ = some (.bool dn) ∧ W.cell? ⟨X, 4, none⟩ = some (.int .i64 seq) ∧ W.cell? ⟨Y, 0, none⟩ = some (.slice vaB vnB vcB) ∧ W.cell? ⟨Y, 1, none⟩ = some (.int .i64 opB) ∧ W.cell? ⟨Y, 2, none⟩ = some (.slice faB mB fcB) ∧ W.cell? ⟨Y, 3, none⟩ = some (.bool dnB) ∧ W.cell? ⟨Y, 4, none⟩ = some (.int .i64 seqB) ∧ W.cell? ⟨R, 0, none⟩ = some (.int .i64 ak)) W := fun W hW => by
    obtain ⟨i0, i1, i2, i3, i4⟩ := (lA.keep hW).b.log
    obtain ⟨j0, j1, j2, j3, j4⟩ := (xA.keep hW).b.log
    have k0 := (rA.keep hW).cell 0
    simp at k0
    exact ⟨i0, i1, i2, i3, i4, j0, j1, j2, j3, j4, k0⟩
  clear lA xA rA BA
  cases AO with
  | false =>
    have hk0 : ak = 0 := HAK.out.2 rfl
    subst hk0
    have HX : Hid _ := hX0
    obtain ⟨i0, i1, i2, i3, i4, j0, j1, j2, j3, j4, k0⟩ := hX0 W9 (Below.refl _ _)
    clear hX0
    refine wp_region_noPanic ?_
    refine wp_region_held_drew (S := fun W : World => W.cell? ⟨X, 0, none⟩ = some (.slice va vn vc) ∧ W.cell? ⟨X, 1, none⟩ = some (.int .i64 op) ∧ W.cell? ⟨X, 2, none⟩ = some (.slice fa m fc) ∧ W.cell? ⟨X, 3, none⟩ = some (.bool dn) ∧ W.cell? ⟨X, 4, none⟩ = some (.int .i64 seq) ∧ W.cell? ⟨Y, 0, none⟩ = some (.slice vaB vnB vcB) ∧ W.cell? ⟨Y, 1, none⟩ = some (.int .i64 opB) ∧ W.cell? ⟨Y, 2, none⟩ = some (.slice faB mB fcB) ∧ W.cell? ⟨Y, 3, none⟩ = some (.bool dnB) ∧ W.cell? ⟨Y, 4, none⟩ = some (.int .i64 seqB) ∧ W.cell? ⟨R, 0, none⟩ = some (.int .i64 0)) (by kernel_rfl) (by go_keep) (fun hS => ?_)
    refine wpAnyH_take (i := 0) (v := ?v1) rfl (by kernel_rfl) (by kernel_rfl) (by kernel_rfl) (fun _ _ _ h => h) (Or.inl ⟨by kernel_rfl, ?y1⟩) (by assumption) ?r1
    case y1 => (intro w' hSw; (try dsimp only at hSw); go_simp; (try with_reducible rfl))
    try simp only [Act.put, List.setIfInBounds_toArray, List.set_cons_zero, List.set_cons_succ, List.getElem_toArray, List.getElem_cons_zero]
    refine wpAnyH_ready (rs := [1]) (by kernel_rfl) (by simp) ?_
    refine AllReadyH.cons rfl (fun K hK => ?_) AllReadyH.nil
    go_simp
    go_at_call 17
    (with_reducible refine (C1.out W9.drew (Below.refl _ W9).drew).mono ?_)
    rintro e v1 ⟨rfl, cv1⟩
    have Dv1 := below_t (Below.refl _ W9).drew cv1
    clear hS
    dsimp only
    refine Shut.out hK _ _ (HX.out v1 Dv1) (fun hS => ?_)
    try simp only [Act.put, List.setIfInBounds_toArray, List.set_cons_zero, List.set_cons_succ, List.getElem_toArray, List.getElem_cons_succ, List.getElem_cons_zero]
    refine wpAnyH_take (i := 2) (v := ?v2) rfl (by kernel_rfl) (by kernel_rfl) (by kernel_rfl) (fun _ _ _ h => h) (Or.inl ⟨by kernel_rfl, ?y2⟩) (by assumption) ?r2
    case y2 => (intro w' hSw; (try dsimp only at hSw); go_simp; (try with_reducible rfl))
    try simp only [Act.put, List.setIfInBounds_toArray, List.set_cons_zero, List.set_cons_succ, List.getElem_toArray, List.getElem_cons_succ, List.getElem_cons_zero]
    refine wpAnyH_take (i := 3) (v := ?v3) rfl (by kernel_rfl) (by kernel_rfl) (by kernel_rfl) (fun _ _ _ h => h) (Or.inl ⟨by kernel_rfl, ?y3⟩) (by assumption) ?r3
    case y3 => (intro w' hSw; (try dsimp only at hSw); go_simp; (try with_reducible rfl))
    try simp only [Act.put, List.setIfInBounds_toArray, List.set_cons_zero, List.set_cons_succ, List.getElem_toArray, List.getElem_cons_succ, List.getElem_cons_zero]
    refine wpAnyH_take (i := 5) (v := ?v4) rfl (by kernel_rfl) (by kernel_rfl) (by kernel_rfl) (fun _ _ _ h => h) (Or.inl ⟨by kernel_rfl, ?y4⟩) (by assumption) ?r4
    case y4 => (intro w' hSw; (try dsimp only at hSw); go_simp; (try with_reducible rfl))
    try simp only [Act.put, List.setIfInBounds_toArray, List.set_cons_zero, List.set_cons_succ, List.getElem_toArray, List.getElem_cons_succ, List.getElem_cons_zero]
    refine wpAnyH_ready (rs := [4]) (by kernel_rfl) (by simp) ?_
    refine AllReadyH.cons rfl (fun K hK => ?_) AllReadyH.nil
    go_simp
    go_at_call 17
    (with_reducible refine (C2.out v1 Dv1).mono ?_)
    rintro e v2 ⟨rfl, cv2⟩
    have Dv2 := below_t Dv1 cv2
    clear hS
    dsimp only
    refine Shut.out hK _ _ (HX.out v2 Dv2) (fun hS => ?_)
    try simp only [Act.put, List.setIfInBounds_toArray, List.set_cons_zero, List.set_cons_succ, List.getElem_toArray, List.getElem_cons_succ, List.getElem_cons_zero]
    refine wpAnyH_ready (rs := [6]) (by kernel_rfl) (by simp) ?_
    refine AllReadyH.cons rfl (fun K hK => ?_) AllReadyH.nil
    go_simp
    go_at_call 18
    (with_reducible refine (C3.out v2 Dv2).mono ?_)
    rintro e v3 ⟨rfl, cv3⟩
    have Dv3 := below_t Dv2 cv3
    clear hS
    dsimp only
    refine Shut.out hK _ _ (HX.out v3 Dv3) (fun hS => ?_)
    try simp only [Act.put, List.setIfInBounds_toArray, List.set_cons_zero, List.set_cons_succ, List.getElem_toArray, List.getElem_cons_succ, List.getElem_cons_zero]
    refine wpAnyH_take (i := 7) (v := ?v5) rfl (by kernel_rfl) (by kernel_rfl) (by kernel_rfl) (fun _ _ _ h => h) (Or.inl ⟨by kernel_rfl, ?y5⟩) (by assumption) ?r5
    case y5 => (intro w' hSw; (try dsimp only at hSw); go_simp; (try with_reducible rfl))
    try simp only [Act.put, List.setIfInBounds_toArray, List.set_cons_zero, List.set_cons_succ, List.getElem_toArray, List.getElem_cons_succ, List.getElem_cons_zero]
    refine wpAnyH_take (i := 8) (v := ?v6) rfl (by kernel_rfl) (by kernel_rfl) (by kernel_rfl) (fun _ _ _ h => h) (Or.inl ⟨by kernel_rfl, ?y6⟩) (by assumption) ?r6
    case y6 => (intro w' hSw; (try dsimp only at hSw); go_simp; (try with_reducible rfl))
    try simp only [Act.put, List.setIfInBounds_toArray, List.set_cons_zero, List.set_cons_succ, List.getElem_toArray, List.getElem_cons_succ, List.getElem_cons_zero]
    refine wpAnyH_take (i := 9) (v := ?v7) rfl (by kernel_rfl) (by kernel_rfl) (by kernel_rfl) (fun _ _ _ h => h) (Or.inl ⟨by kernel_rfl, ?y7⟩) (by assumption) ?r7
    case y7 => (intro w' hSw; (try dsimp only at hSw); go_simp; (try with_reducible rfl))
    try simp only [Act.put, List.setIfInBounds_toArray, List.set_cons_zero, List.set_cons_succ, List.getElem_toArray, List.getElem_cons_succ, List.getElem_cons_zero]
    refine wpAnyH_take (i := 10) (v := ?v8) rfl (by kernel_rfl) (by kernel_rfl) (by kernel_rfl) (fun _ _ _ h => h) (Or.inl ⟨by kernel_rfl, ?y8⟩) (by assumption) ?r8
    case y8 => (intro w' hSw; (try dsimp only at hSw); go_simp; (try with_reducible rfl))
    try simp only [Act.put, List.setIfInBounds_toArray, List.set_cons_zero, List.set_cons_succ, List.getElem_toArray, List.getElem_cons_succ, List.getElem_cons_zero]
    refine wpAnyH_take (i := 11) (v := ?v9) rfl (by kernel_rfl) (by kernel_rfl) (by kernel_rfl) (fun _ _ _ h => h) (Or.inl ⟨by kernel_rfl, ?y9⟩) (by assumption) ?r9
    case y9 => (intro w' hSw; (try dsimp only at hSw); go_simp; (try with_reducible rfl))
    try simp only [Act.put, List.setIfInBounds_toArray, List.set_cons_zero, List.set_cons_succ, List.getElem_toArray, List.getElem_cons_succ, List.getElem_cons_zero]
    refine wpAnyH_take (i := 12) (v := ?v10) rfl (by kernel_rfl) (by kernel_rfl) (by kernel_rfl) (fun _ _ _ h => h) (Or.inl ⟨by kernel_rfl, ?y10⟩) (by assumption) ?r10
    case y10 => (intro w' hSw; (try dsimp only at hSw); go_simp; (try with_reducible rfl))
    try simp only [Act.put, List.setIfInBounds_toArray, List.set_cons_zero, List.set_cons_succ, List.getElem_toArray, List.getElem_cons_succ, List.getElem_cons_zero]
    refine wpAnyH_take (i := 13) (v := ?v11) rfl (by kernel_rfl) (by kernel_rfl) (by kernel_rfl) (fun _ _ _ h => h) (Or.inl ⟨by kernel_rfl, ?y11⟩) (by assumption) ?r11
    case y11 => (intro w' hSw; (try dsimp only at hSw); go_simp; (try with_reducible rfl))
    try simp only [Act.put, List.setIfInBounds_toArray, List.set_cons_zero, List.set_cons_succ, List.getElem_toArray, List.getElem_cons_succ, List.getElem_cons_zero]
    refine wpAnyH_take (i := 14) (v := ?v12) rfl (by kernel_rfl) (by kernel_rfl) (by kernel_rfl) (fun _ _ _ h => h) (Or.inl ⟨by kernel_rfl, ?y12⟩) (by assumption) ?r12
    case y12 => (intro w' hSw; (try dsimp only at hSw); go_simp; (try with_reducible rfl))
    try simp only [Act.put, List.setIfInBounds_toArray, List.set_cons_zero, List.set_cons_succ, List.getElem_toArray, List.getElem_cons_succ, List.getElem_cons_zero]
    refine wpAnyH_take (i := 15) (v := ?v13) rfl (by kernel_rfl) (by kernel_rfl) (by kernel_rfl) (fun _ _ _ h => h) (Or.inl ⟨by kernel_rfl, ?y13⟩) (by assumption) ?r13
    case y13 => (intro w' hSw; (try dsimp only at hSw); go_simp; (try with_reducible rfl))
    try simp only [Act.put, List.setIfInBounds_toArray, List.set_cons_zero, List.set_cons_succ, List.getElem_toArray, List.getElem_cons_succ, List.getElem_cons_zero]
    refine wpAnyH_take (i := 16) (v := ?v14) rfl (by kernel_rfl) (by kernel_rfl) (by kernel_rfl) (fun _ _ _ h => h) (Or.inl ⟨by kernel_rfl, ?y14⟩) (by assumption) ?r14
    case y14 => (intro w' hSw; (try dsimp only at hSw); go_simp; (try with_reducible rfl))
    try simp only [Act.put, List.setIfInBounds_toArray, List.set_cons_zero, List.set_cons_succ, List.getElem_toArray, List.getElem_cons_succ, List.getElem_cons_zero]
    refine wpAnyH_take (i := 17) (v := ?v15) rfl (by kernel_rfl) (by kernel_rfl) (by kernel_rfl) (fun _ _ _ h => h) (Or.inl ⟨by kernel_rfl, ?y15⟩) (by assumption) ?r15
    case y15 => (intro w' hSw; (try dsimp only at hSw); go_simp; (try with_reducible rfl))
    try simp only [Act.put, List.setIfInBounds_toArray, List.set_cons_zero, List.set_cons_succ, List.getElem_toArray, List.getElem_cons_succ, List.getElem_cons_zero]
    refine wpAnyH_take (i := 18) (v := ?v16) rfl (by kernel_rfl) (by kernel_rfl) (by kernel_rfl) (fun _ _ _ h => h) (Or.inl ⟨by kernel_rfl, ?y16⟩) (by assumption) ?r16
    case y16 => (intro w' hSw; (try dsimp only at hSw); go_simp; (try with_reducible rfl))
    try simp only [Act.put, List.setIfInBounds_toArray, List.set_cons_zero, List.set_cons_succ, List.getElem_toArray, List.getElem_cons_succ, List.getElem_cons_zero]
    refine wpAnyH_take (i := 19) (v := ?v17) rfl (by kernel_rfl) (by kernel_rfl) (by kernel_rfl) (fun _ _ _ h => h) (Or.inl ⟨by kernel_rfl, ?y17⟩) (by assumption) ?r17
    case y17 => (intro w' hSw; (try dsimp only at hSw); go_simp; (try with_reducible rfl))
    try simp only [Act.put, List.setIfInBounds_toArray, List.set_cons_zero, List.set_cons_succ, List.getElem_toArray, List.getElem_cons_succ, List.getElem_cons_zero]
    refine wpAnyH_take (i := 20) (v := ?v18) rfl (by kernel_rfl) (by kernel_rfl) (by kernel_rfl) (fun _ _ _ h => h) (Or.inl ⟨by kernel_rfl, ?y18⟩) (by assumption) ?r18
    case y18 => (intro w' hSw; (try dsimp only at hSw); go_simp; (try with_reducible rfl))
    try simp only [Act.put, List.setIfInBounds_toArray, List.set_cons_zero, List.set_cons_succ, List.getElem_toArray, List.getElem_cons_succ, List.getElem_cons_zero]
    refine wpAnyH_take (i := 21) (v := ?v19) rfl (by kernel_rfl) (by kernel_rfl) (by kernel_rfl) (fun _ _ _ h => h) (Or.inl ⟨by kernel_rfl, ?y19⟩) (by assumption) ?r19
    case y19 => (intro w' hSw; (try dsimp only at hSw); go_simp; (try with_reducible rfl))
    try simp only [Act.put, List.setIfInBounds_toArray, List.set_cons_zero, List.set_cons_succ, List.getElem_toArray, List.getElem_cons_succ, List.getElem_cons_zero]
    refine wpAnyH_take (i := 22) (v := ?v20) rfl (by kernel_rfl) (by kernel_rfl) (by kernel_rfl) (fun _ _ _ h => h) (Or.inl ⟨by kernel_rfl, ?y20⟩) (by assumption) ?r20
    case y20 => (intro w' hSw; (try dsimp only at hSw); go_simp; (try with_reducible rfl))
    try simp only [Act.put, List.setIfInBounds_toArray, List.set_cons_zero, List.set_cons_succ, List.getElem_toArray, List.getElem_cons_succ, List.getElem_cons_zero]
    refine wpAnyH_take (i := 23) (v := undef) rfl (by kernel_rfl) (by kernel_rfl) (by kernel_rfl) (fun _ _ _ h => h) (Or.inr ⟨by kernel_rfl, rfl⟩) (by assumption) ?_
    try simp only [Act.put, List.setIfInBounds_toArray, List.set_cons_zero, List.set_cons_succ, List.getElem_toArray, List.getElem_cons_succ, List.getElem_cons_zero]
    refine wpAnyH_take (i := 24) (v := undef) rfl (by kernel_rfl) (by kernel_rfl) (by kernel_rfl) (fun _ _ _ h => h) (Or.inr ⟨by kernel_rfl, rfl⟩) (by assumption) ?_
    try simp only [Act.put, List.setIfInBounds_toArray, List.set_cons_zero, List.set_cons_succ, List.getElem_toArray, List.getElem_cons_succ, List.getElem_cons_zero]
    refine wpAnyH_take (i := 25) (v := undef) rfl (by kernel_rfl) (by kernel_rfl) (by kernel_rfl) (fun _ _ _ h => h) (Or.inr ⟨by kernel_rfl, rfl⟩) (by assumption) ?_
    try simp only [Act.put, List.setIfInBounds_toArray, List.set_cons_zero, List.set_cons_succ, List.getElem_toArray, List.getElem_cons_succ, List.getElem_cons_zero]
    refine wpAnyH_take (i := 26) (v := undef) rfl (by kernel_rfl) (by kernel_rfl) (by kernel_rfl) (fun _ _ _ h => h) (Or.inr ⟨by kernel_rfl, rfl⟩) (by assumption) ?_
    try simp only [Act.put, List.setIfInBounds_toArray, List.set_cons_zero, List.set_cons_succ, List.getElem_toArray, List.getElem_cons_succ, List.getElem_cons_zero]
    refine wpAnyH_take (i := 27) (v := undef) rfl (by kernel_rfl) (by kernel_rfl) (by kernel_rfl) (fun _ _ _ h => h) (Or.inr ⟨by kernel_rfl, rfl⟩) (by assumption) ?_
    try simp only [Act.put, List.setIfInBounds_toArray, List.set_cons_zero, List.set_cons_succ, List.getElem_toArray, List.getElem_cons_succ, List.getElem_cons_zero]
    refine wpAnyH_take (i := 28) (v := undef) rfl (by kernel_rfl) (by kernel_rfl) (by kernel_rfl) (fun _ _ _ h => h) (Or.inr ⟨by kernel_rfl, rfl⟩) (by assumption) ?_
    try simp only [Act.put, List.setIfInBounds_toArray, List.set_cons_zero, List.set_cons_succ, List.getElem_toArray, List.getElem_cons_succ, List.getElem_cons_zero]
    refine wpAnyH_take (i := 29) (v := undef) rfl (by kernel_rfl) (by kernel_rfl) (by kernel_rfl) (fun _ _ _ h => h) (Or.inr ⟨by kernel_rfl, rfl⟩) (by assumption) ?_
    try simp only [Act.put, List.setIfInBounds_toArray, List.set_cons_zero, List.set_cons_succ, List.getElem_toArray, List.getElem_cons_succ, List.getElem_cons_zero]
    refine wpAnyH_take (i := 30) (v := ?v21) rfl (by kernel_rfl) (by kernel_rfl) (by kernel_rfl) (fun _ _ _ h => h) (Or.inl ⟨by kernel_rfl, ?y21⟩) (by assumption) ?r21
    case y21 => (intro w' hSw; (try dsimp only at hSw); go_simp; (try with_reducible rfl))
    try simp only [Act.put, List.setIfInBounds_toArray, List.set_cons_zero, List.set_cons_succ, List.getElem_toArray, List.getElem_cons_succ, List.getElem_cons_zero]
    refine wpAnyH_take (i := 31) (v := ?v22) rfl (by kernel_rfl) (by kernel_rfl) (by kernel_rfl) (fun _ _ _ h => h) (Or.inl ⟨by kernel_rfl, ?y22⟩) (by assumption) ?r22
    case y22 => (intro w' hSw; (try dsimp only at hSw); go_simp; (try with_reducible rfl))
    try simp only [Act.put, List.setIfInBounds_toArray, List.set_cons_zero, List.set_cons_succ, List.getElem_toArray, List.getElem_cons_succ, List.getElem_cons_zero]
    refine wpAnyH_take (i := 32) (v := ?vz1) rfl (by kernel_rfl) (by kernel_rfl) (by kernel_rfl) (fun _ _ _ h => h) (Or.inl ⟨by kernel_rfl, ?yz1⟩) (by assumption) ?rz1
    case yz1 => (intro w' hSw; (try dsimp only at hSw); go_simp; (try with_reducible rfl))
    try simp only [Act.put, List.setIfInBounds_toArray, List.set_cons_zero, List.set_cons_succ, List.getElem_toArray, List.getElem_cons_succ, List.getElem_cons_zero]
    refine wpAnyH_done (by kernel_rfl) (NoPanic.normal ?_) _
    go_wp2_with fail
    go_ret
    exact ⟨rfl, below_t HB.out Dv3⟩
  | true =>
    have hk0 : ak = 1 + (kd : Int) := HAK.out.1 rfl
    subst hk0
    have HX : Hid _ := hX0
    obtain ⟨i0, i1, i2, i3, i4, j0, j1, j2, j3, j4, k0⟩ := hX0 W9 (Below.refl _ _)
    clear hX0
    refine wp_region_noPanic ?_
    refine wp_region_held_drew (S := fun W : World => W.cell? ⟨X, 0, none⟩ = some (.slice va vn vc) ∧ W.cell? ⟨X, 1, none⟩ = some (.int .i64 op) ∧ W.cell? ⟨X, 2, none⟩ = some (.slice fa m fc) ∧ W.cell? ⟨X, 3, none⟩ = some (.bool dn) ∧ W.cell? ⟨X, 4, none⟩ = some (.int .i64 seq) ∧ W.cell? ⟨Y, 0, none⟩ = some (.slice vaB vnB vcB) ∧ W.cell? ⟨Y, 1, none⟩ = some (.int .i64 opB) ∧ W.cell? ⟨Y, 2, none⟩ = some (.slice faB mB fcB) ∧ W.cell? ⟨Y, 3, none⟩ = some (.bool dnB) ∧ W.cell? ⟨Y, 4, none⟩ = some (.int .i64 seqB) ∧ W.cell? ⟨R, 0, none⟩ = some (.int .i64 (1 + (kd : Int)))) (by kernel_rfl) (by go_keep) (fun hS => ?_)
    refine wpAnyH_take (i := 0) (v := ?v41) rfl (by kernel_rfl) (by kernel_rfl) (by kernel_rfl) (fun _ _ _ h => h) (Or.inl ⟨by kernel_rfl, ?y41⟩) (by assumption) ?r41
    case y41 => (intro w' hSw; (try dsimp only at hSw); go_simp; (try with_reducible rfl))
    try simp only [Act.put, List.setIfInBounds_toArray, List.set_cons_zero, List.set_cons_succ, List.getElem_toArray, List.getElem_cons_zero]
    refine wpAnyH_ready (rs := [1]) (by kernel_rfl) (by simp) ?_
    refine AllReadyH.cons rfl (fun K hK => ?_) AllReadyH.nil
    go_simp
    go_at_call 17
    (with_reducible refine (C1.out W9.drew (Below.refl _ W9).drew).mono ?_)
    rintro e v1 ⟨rfl, cv1⟩
    have Dv1 := below_t (Below.refl _ W9).drew cv1
    clear hS
    dsimp only
    refine Shut.out hK _ _ (HX.out v1 Dv1) (fun hS => ?_)
    try simp only [Act.put, List.setIfInBounds_toArray, List.set_cons_zero, List.set_cons_succ, List.getElem_toArray, List.getElem_cons_succ, List.getElem_cons_zero]
    refine wpAnyH_take (i := 2) (v := ?v42) rfl (by kernel_rfl) (by kernel_rfl) (by kernel_rfl) (fun _ _ _ h => h) (Or.inl ⟨by kernel_rfl, ?y42⟩) (by assumption) ?r42
    case y42 => (intro w' hSw; (try dsimp only at hSw); go_simp; (try with_reducible rfl))
    try simp only [Act.put, List.setIfInBounds_toArray, List.set_cons_zero, List.set_cons_succ, List.getElem_toArray, List.getElem_cons_succ, List.getElem_cons_zero]
    refine wpAnyH_take (i := 3) (v := ?v43) rfl (by kernel_rfl) (by kernel_rfl) (by kernel_rfl) (fun _ _ _ h => h) (Or.inl ⟨by kernel_rfl, ?y43⟩) (by assumption) ?r43
    case y43 => (intro w' hSw; (try dsimp only at hSw); go_simp; (try with_reducible rfl))
    try simp only [Act.put, List.setIfInBounds_toArray, List.set_cons_zero, List.set_cons_succ, List.getElem_toArray, List.getElem_cons_succ, List.getElem_cons_zero]
    refine wpAnyH_take (i := 5) (v := ?v44) rfl (by kernel_rfl) (by kernel_rfl) (by kernel_rfl) (fun _ _ _ h => h) (Or.inl ⟨by kernel_rfl, ?y44⟩) (by assumption) ?r44
    case y44 => (intro w' hSw; (try dsimp only at hSw); go_simp; (try with_reducible rfl))
    try simp only [Act.put, List.setIfInBounds_toArray, List.set_cons_zero, List.set_cons_succ, List.getElem_toArray, List.getElem_cons_succ, List.getElem_cons_zero]
    refine wpAnyH_ready (rs := [4]) (by kernel_rfl) (by simp) ?_
    refine AllReadyH.cons rfl (fun K hK => ?_) AllReadyH.nil
    go_simp
    go_at_call 17
    (with_reducible refine (C2.out v1 Dv1).mono ?_)
    rintro e v2 ⟨rfl, cv2⟩
    have Dv2 := below_t Dv1 cv2
    clear hS
    dsimp only
    refine Shut.out hK _ _ (HX.out v2 Dv2) (fun hS => ?_)
    try simp only [Act.put, List.setIfInBounds_toArray, List.set_cons_zero, List.set_cons_succ, List.getElem_toArray, List.getElem_cons_succ, List.getElem_cons_zero]
    refine wpAnyH_ready (rs := [6]) (by kernel_rfl) (by simp) ?_
    refine AllReadyH.cons rfl (fun K hK => ?_) AllReadyH.nil
    go_simp
    go_at_call 18
    (with_reducible refine (C3.out v2 Dv2).mono ?_)
    rintro e v3 ⟨rfl, cv3⟩
    have Dv3 := below_t Dv2 cv3
    clear hS
    dsimp only
    refine Shut.out hK _ _ (HX.out v3 Dv3) (fun hS => ?_)
    try simp only [Act.put, List.setIfInBounds_toArray, List.set_cons_zero, List.set_cons_succ, List.getElem_toArray, List.getElem_cons_succ, List.getElem_cons_zero]
    refine wpAnyH_take (i := 7) (v := ?v45) rfl (by kernel_rfl) (by kernel_rfl) (by kernel_rfl) (fun _ _ _ h => h) (Or.inl ⟨by kernel_rfl, ?y45⟩) (by assumption) ?r45
    case y45 => (intro w' hSw; (try dsimp only at hSw); go_simp; (try with_reducible rfl))
    try simp only [Act.put, List.setIfInBounds_toArray, List.set_cons_zero, List.set_cons_succ, List.getElem_toArray, List.getElem_cons_succ, List.getElem_cons_zero]
    refine wpAnyH_take (i := 8) (v := ?v46) rfl (by kernel_rfl) (by kernel_rfl) (by kernel_rfl) (fun _ _ _ h => h) (Or.inl ⟨by kernel_rfl, ?y46⟩) (by assumption) ?r46
    case y46 => (intro w' hSw; (try dsimp only at hSw); go_simp; (try with_reducible rfl))
    try simp only [Act.put, List.setIfInBounds_toArray, List.set_cons_zero, List.set_cons_succ, List.getElem_toArray, List.getElem_cons_succ, List.getElem_cons_zero]
    refine wpAnyH_take (i := 9) (v := ?v47) rfl (by kernel_rfl) (by kernel_rfl) (by kernel_rfl) (fun _ _ _ h => h) (Or.inl ⟨by kernel_rfl, ?y47⟩) (by assumption) ?r47
    case y47 => (intro w' hSw; (try dsimp only at hSw); go_simp; (try with_reducible rfl))
    try simp only [Act.put, List.setIfInBounds_toArray, List.set_cons_zero, List.set_cons_succ, List.getElem_toArray, List.getElem_cons_succ, List.getElem_cons_zero]
    refine wpAnyH_take (i := 10) (v := ?v48) rfl (by kernel_rfl) (by kernel_rfl) (by kernel_rfl) (fun _ _ _ h => h) (Or.inl ⟨by kernel_rfl, ?y48⟩) (by assumption) ?r48
    case y48 => (intro w' hSw; (try dsimp only at hSw); go_simp; (try with_reducible rfl))
    try simp only [Act.put, List.setIfInBounds_toArray, List.set_cons_zero, List.set_cons_succ, List.getElem_toArray, List.getElem_cons_succ, List.getElem_cons_zero]
    refine wpAnyH_take (i := 11) (v := ?v49) rfl (by kernel_rfl) (by kernel_rfl) (by kernel_rfl) (fun _ _ _ h => h) (Or.inl ⟨by kernel_rfl, ?y49⟩) (by assumption) ?r49
    case y49 => (intro w' hSw; (try dsimp only at hSw); go_simp; (try with_reducible rfl))
    try simp only [Act.put, List.setIfInBounds_toArray, List.set_cons_zero, List.set_cons_succ, List.getElem_toArray, List.getElem_cons_succ, List.getElem_cons_zero]
    refine wpAnyH_take (i := 12) (v := ?v50) rfl (by kernel_rfl) (by kernel_rfl) (by kernel_rfl) (fun _ _ _ h => h) (Or.inl ⟨by kernel_rfl, ?y50⟩) (by assumption) ?r50
    case y50 => (intro w' hSw; (try dsimp only at hSw); go_simp; (try with_reducible rfl))
    try simp only [Act.put, List.setIfInBounds_toArray, List.set_cons_zero, List.set_cons_succ, List.getElem_toArray, List.getElem_cons_succ, List.getElem_cons_zero]
    refine wpAnyH_take (i := 13) (v := ?v51) rfl (by kernel_rfl) (by kernel_rfl) (by kernel_rfl) (fun _ _ _ h => h) (Or.inl ⟨by kernel_rfl, ?y51⟩) (by assumption) ?r51
    case y51 => (intro w' hSw; (try dsimp only at hSw); go_simp; (try with_reducible rfl))
    try simp only [Act.put, List.setIfInBounds_toArray, List.set_cons_zero, List.set_cons_succ, List.getElem_toArray, List.getElem_cons_succ, List.getElem_cons_zero]
    refine wpAnyH_take (i := 14) (v := ?v52) rfl (by kernel_rfl) (by kernel_rfl) (by kernel_rfl) (fun _ _ _ h => h) (Or.inl ⟨by kernel_rfl, ?y52⟩) (by assumption) ?r52
    case y52 => (intro w' hSw; (try dsimp only at hSw); go_simp; (try with_reducible rfl))
    try simp only [Act.put, List.setIfInBounds_toArray, List.set_cons_zero, List.set_cons_succ, List.getElem_toArray, List.getElem_cons_succ, List.getElem_cons_zero]
    refine wpAnyH_take (i := 15) (v := ?v53) rfl (by kernel_rfl) (by kernel_rfl) (by kernel_rfl) (fun _ _ _ h => h) (Or.inl ⟨by kernel_rfl, ?y53⟩) (by assumption) ?r53
    case y53 => (intro w' hSw; (try dsimp only at hSw); go_simp; (try with_reducible rfl))
    try simp only [Act.put, List.setIfInBounds_toArray, List.set_cons_zero, List.set_cons_succ, List.getElem_toArray, List.getElem_cons_succ, List.getElem_cons_zero]
    refine wpAnyH_take (i := 16) (v := ?v54) rfl (by kernel_rfl) (by kernel_rfl) (by kernel_rfl) (fun _ _ _ h => h) (Or.inl ⟨by kernel_rfl, ?y54⟩) (by assumption) ?r54
    case y54 => (intro w' hSw; (try dsimp only at hSw); go_simp; (try with_reducible rfl))
    try simp only [Act.put, List.setIfInBounds_toArray, List.set_cons_zero, List.set_cons_succ, List.getElem_toArray, List.getElem_cons_succ, List.getElem_cons_zero]
    refine wpAnyH_take (i := 17) (v := ?v55) rfl (by kernel_rfl) (by kernel_rfl) (by kernel_rfl) (fun _ _ _ h => h) (Or.inl ⟨by kernel_rfl, ?y55⟩) (by assumption) ?r55
    case y55 => (intro w' hSw; (try dsimp only at hSw); go_simp; (try with_reducible rfl))
    try simp only [Act.put, List.setIfInBounds_toArray, List.set_cons_zero, List.set_cons_succ, List.getElem_toArray, List.getElem_cons_succ, List.getElem_cons_zero]
    refine wpAnyH_take (i := 18) (v := undef) rfl (by kernel_rfl) (by kernel_rfl) (by kernel_rfl) (fun _ _ _ h => h) (Or.inr ⟨by kernel_rfl, rfl⟩) (by assumption) ?_
    try simp only [Act.put, List.setIfInBounds_toArray, List.set_cons_zero, List.set_cons_succ, List.getElem_toArray, List.getElem_cons_succ, List.getElem_cons_zero]
    refine wpAnyH_take (i := 19) (v := undef) rfl (by kernel_rfl) (by kernel_rfl) (by kernel_rfl) (fun _ _ _ h => h) (Or.inr ⟨by kernel_rfl, rfl⟩) (by assumption) ?_
    try simp only [Act.put, List.setIfInBounds_toArray, List.set_cons_zero, List.set_cons_succ, List.getElem_toArray, List.getElem_cons_succ, List.getElem_cons_zero]
    refine wpAnyH_take (i := 20) (v := undef) rfl (by kernel_rfl) (by kernel_rfl) (by kernel_rfl) (fun _ _ _ h => h) (Or.inr ⟨by kernel_rfl, rfl⟩) (by assumption) ?_
    try simp only [Act.put, List.setIfInBounds_toArray, List.set_cons_zero, List.set_cons_succ, List.getElem_toArray, List.getElem_cons_succ, List.getElem_cons_zero]
    refine wpAnyH_take (i := 21) (v := ?v56) rfl (by kernel_rfl) (by kernel_rfl) (by kernel_rfl) (fun _ _ _ h => h) (Or.inl ⟨by kernel_rfl, ?y56⟩) (by assumption) ?r56
    case y56 => (intro w' hSw; (try dsimp only at hSw); go_simp; (try with_reducible rfl))
    try simp only [Act.put, List.setIfInBounds_toArray, List.set_cons_zero, List.set_cons_succ, List.getElem_toArray, List.getElem_cons_succ, List.getElem_cons_zero]
    refine wpAnyH_take (i := 22) (v := ?v57) rfl (by kernel_rfl) (by kernel_rfl) (by kernel_rfl) (fun _ _ _ h => h) (Or.inl ⟨by kernel_rfl, ?y57⟩) (by assumption) ?r57
    case y57 => (intro w' hSw; (try dsimp only at hSw); go_simp; (try with_reducible rfl))
    try simp only [Act.put, List.setIfInBounds_toArray, List.set_cons_zero, List.set_cons_succ, List.getElem_toArray, List.getElem_cons_succ, List.getElem_cons_zero]
    refine wpAnyH_take (i := 23) (v := ?v58) rfl (by kernel_rfl) (by kernel_rfl) (by kernel_rfl) (fun _ _ _ h => h) (Or.inl ⟨by kernel_rfl, ?y58⟩) (by assumption) ?r58
    case y58 => (intro w' hSw; (try dsimp only at hSw); go_simp; (try with_reducible rfl))
    try simp only [Act.put, List.setIfInBounds_toArray, List.set_cons_zero, List.set_cons_succ, List.getElem_toArray, List.getElem_cons_succ, List.getElem_cons_zero]
    refine wpAnyH_take (i := 24) (v := ?v59) rfl (by kernel_rfl) (by kernel_rfl) (by kernel_rfl) (fun _ _ _ h => h) (Or.inl ⟨by kernel_rfl, ?y59⟩) (by assumption) ?r59
    case y59 => (intro w' hSw; (try dsimp only at hSw); go_simp; (try with_reducible rfl))
    try simp only [Act.put, List.setIfInBounds_toArray, List.set_cons_zero, List.set_cons_succ, List.getElem_toArray, List.getElem_cons_succ, List.getElem_cons_zero]
    refine wpAnyH_take (i := 25) (v := ?v60) rfl (by kernel_rfl) (by kernel_rfl) (by kernel_rfl) (fun _ _ _ h => h) (Or.inl ⟨by kernel_rfl, ?y60⟩) (by assumption) ?r60
    case y60 => (intro w' hSw; (try dsimp only at hSw); go_simp; (try with_reducible rfl))
    try simp only [Act.put, List.setIfInBounds_toArray, List.set_cons_zero, List.set_cons_succ, List.getElem_toArray, List.getElem_cons_succ, List.getElem_cons_zero]
    refine wpAnyH_take (i := 26) (v := ?v61) rfl (by kernel_rfl) (by kernel_rfl) (by kernel_rfl) (fun _ _ _ h => h) (Or.inl ⟨by kernel_rfl, ?y61⟩) (by assumption) ?r61
    case y61 => (intro w' hSw; (try dsimp only at hSw); go_simp; (try with_reducible rfl))
    try simp only [Act.put, List.setIfInBounds_toArray, List.set_cons_zero, List.set_cons_succ, List.getElem_toArray, List.getElem_cons_succ, List.getElem_cons_zero]
    refine wpAnyH_take (i := 27) (v := ?v62) rfl (by kernel_rfl) (by kernel_rfl) (by kernel_rfl) (fun _ _ _ h => h) (Or.inl ⟨by kernel_rfl, ?y62⟩) (by assumption) ?r62
    case y62 => (intro w' hSw; (try dsimp only at hSw); go_simp; (try with_reducible rfl))
    try simp only [Act.put, List.setIfInBounds_toArray, List.set_cons_zero, List.set_cons_succ, List.getElem_toArray, List.getElem_cons_succ, List.getElem_cons_zero]
    refine wpAnyH_take (i := 28) (v := ?v63) rfl (by kernel_rfl) (by kernel_rfl) (by kernel_rfl) (fun _ _ _ h => h) (Or.inl ⟨by kernel_rfl, ?y63⟩) (by assumption) ?r63
    case y63 => (intro w' hSw; (try dsimp only at hSw); go_simp; (try with_reducible rfl))
    try simp only [Act.put, List.setIfInBounds_toArray, List.set_cons_zero, List.set_cons_succ, List.getElem_toArray, List.getElem_cons_succ, List.getElem_cons_zero]
    refine wpAnyH_take (i := 29) (v := ?v64) rfl (by kernel_rfl) (by kernel_rfl) (by kernel_rfl) (fun _ _ _ h => h) (Or.inl ⟨by kernel_rfl, ?y64⟩) (by assumption) ?r64
    case y64 => (intro w' hSw; (try dsimp only at hSw); go_simp; (try with_reducible rfl))
    try simp only [Act.put, List.setIfInBounds_toArray, List.set_cons_zero, List.set_cons_succ, List.getElem_toArray, List.getElem_cons_succ, List.getElem_cons_zero]
    refine wpAnyH_take (i := 30) (v := ?v65) rfl (by kernel_rfl) (by kernel_rfl) (by kernel_rfl) (fun _ _ _ h => h) (Or.inl ⟨by kernel_rfl, ?y65⟩) (by assumption) ?r65
    case y65 => (intro w' hSw; (try dsimp only at hSw); go_simp; (try with_reducible rfl))
    try simp only [Act.put, List.setIfInBounds_toArray, List.set_cons_zero, List.set_cons_succ, List.getElem_toArray, List.getElem_cons_succ, List.getElem_cons_zero]
    refine wpAnyH_take (i := 31) (v := ?v66) rfl (by kernel_rfl) (by kernel_rfl) (by kernel_rfl) (fun _ _ _ h => h) (Or.inl ⟨by kernel_rfl, ?y66⟩) (by assumption) ?r66
    case y66 => (intro w' hSw; (try dsimp only at hSw); go_simp; (try with_reducible rfl))
    try simp only [Act.put, List.setIfInBounds_toArray, List.set_cons_zero, List.set_cons_succ, List.getElem_toArray, List.getElem_cons_succ, List.getElem_cons_zero]
    refine wpAnyH_take (i := 32) (v := ?vz3) rfl (by kernel_rfl) (by kernel_rfl) (by kernel_rfl) (fun _ _ _ h => h) (Or.inl ⟨by kernel_rfl, ?yz3⟩) (by assumption) ?rz3
    case yz3 => (intro w' hSw; (try dsimp only at hSw); go_simp; (try with_reducible rfl))
    try simp only [Act.put, List.setIfInBounds_toArray, List.set_cons_zero, List.set_cons_succ, List.getElem_toArray, List.getElem_cons_succ, List.getElem_cons_zero]
    refine wpAnyH_done (by kernel_rfl) (NoPanic.normal ?_) _
    go_wp2_with fail
    go_ret
    exact ⟨rfl, below_t HB.out Dv3⟩

/-! ### THE ROW's STEP: WRITTEN OUT: LEAVE IT -/
set_option maxRecDepth 100000 in
theorem lifted (os : Os) (started : os.Started) (H : Type) (enc : TypeId × Value → H) :
    ReturnsInHanded {} Try.checked os 4 .any (Rows.fnLogsOkSpec.pre6 enc Try.prog Try.f4 Rows.fnLogsOkRow.domain false) (Rows.fnLogsOkSpec.post enc Try.prog Try.f4 false true false false) := by
  refine returnsInHanded_of_change (C := Try.checked) own started (by kernel_rfl) Try.func4
    (ChangeSpec.witness6 (enc := enc) (C := Try.checked) false ⟨#[], #[.slice none 0 0], []⟩ 8 (by kernel_rfl) (by kernel_rfl) (by kernel_rfl) (by kernel_rfl)) ?_
  intro W base args ds gs before hval0 hW hcnd _
  have hval : ∀ (j : Nat) t v, Try.f4.params[j]? = some t → args[j]? = some v → Value.okWide Try.prog W .any base t v := hval0
  have hW' := hW
  obtain ⟨p, q, hA0, hV, rfl, hfz, hnd⟩ := hW
  have hA : DataW.TrodAll enc Try.prog W 0 (fun _ => true) true Try.f4.params.toList args.toList ds p := hA0
  rw [Try.params4] at hA hval
  obtain ⟨v0, vs0, d0, ds0, p0, q0, hargs, rfl, rfl, h0, r0⟩ := trodAll_cons hA
  obtain ⟨rfl, rfl, rfl⟩ := trodAll_nil r0
  obtain rfl : args = #[v0] := by cases args; simp_all
  obtain ⟨rfl, rfl⟩ := trodVars_none hV
  obtain ⟨a0, len0, cap0, rfl⟩ := okWide_slice Try.underlying22 (hval 0 22 v0 rfl rfl)
  have k0 := h0
  have lt0 : ∀ x ∈ p0, x.block < W.heap.size := by obtain ⟨m, hm⟩ := k0; exact DataW.trod_lt m _ _ _ hm
  obtain ⟨z0, w0⟩ : ∃ zs, IsRow .u8 W a0 len0 cap0 zs := by
    obtain ⟨fuel, hf⟩ := h0
    rcases open_ints Try.underlying22 Try.underlying5 (by kernel_rfl) hf with ⟨hcs, _⟩ | ⟨x, l, c, zs, hcs, _, hl, hm, hz, _, hcell, hwz⟩
    · simp [Value.cells] at hcs
      obtain ⟨rfl, rfl, rfl⟩ := hcs
      exact ⟨[], .inl ⟨rfl, rfl, rfl, rfl⟩⟩
    · simp [Value.cells] at hcs
      obtain ⟨rfl, rfl, rfl⟩ := hcs
      exact ⟨zs, .inr ⟨_, rfl, hl, hm, by simpa using hz, hcell, hwz⟩⟩
  clear hA0 hval0
  refine (walk a0 len0 cap0 z0 W w0).mono fun e W' ⟨he, bel⟩ => ?_
  subst he
  exact ⟨_, rfl, _, _, _, [], _, [], hW', trodAll_mk1 (shut_bool Try.underlying4 _), (trodAll_cons_mk (Below.trod laidOut (by kernel_rfl) (of_decide_eq_true (by kernel_rfl)) k0 bel lt0) trodAll_mk0), rfl, bel.frame _, fun h => by cases h⟩

theorem over : Rows.fnLogsOkRow.holds Try.pinned (OpenSpec.ofChange Rows.fnLogsOkSpec) :=
  OpenClaim.holds_of_wide 4 Try.f4 rfl rfl rfl rfl rfl rfl rfl ⟨rfl, rfl, rfl, rfl, rfl⟩ rfl rfl rfl rfl rfl (by kernel_rfl) Try.func4 (by kernel_rfl)
    (of_decide_eq_true (by kernel_rfl)) (by unfold Func.isWrapper; first | (rw [if_pos (by decide +kernel)]; kernel_rfl) | (rw [if_neg (by decide +kernel)]; exact ⟨rfl, rfl⟩))
    (fun os started H enc _ => lifted os started H enc)

/-- ████ THE STATEMENT ████ -/
theorem proved : Rows.FnLogsOkSaid := over
#print axioms proved
end Go.Proofs.Ytpejfkgbfdkdnaa.fnLogsOk
