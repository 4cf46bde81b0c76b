/-
  Bytes that are read as an inode are those that the inode is put as; no conditions.
  The frame (all but the walk) is the text that the guide's own program writes for this row.
-/
import Derived.Test.YtnllhpeddoaehaaRows
import Derived.Test.YtnllhpeddoaehaaFnJ
import Derived.WalkKit
import Derived.ProofKit
import Derived.OpenShut
import Derived.ShutString
import Derived.ChangeOld
import Derived.Below
namespace Go.Proofs.Ytnllhpeddoaehaa.fnInodesRead
open Go.ChangeShapes Go.WideShapes Go.ChangeAt Go.RowKit
open Go.ChangeMaps (open_string shut_string)
set_option linter.unusedVariables false

theorem own : ownKnob Try.prog.godebug = none := by kernel_rfl
theorem laidOut : laidOutB Try.prog = true := by kernel_rfl

/-- WHAT THE WALK IS TOLD OF A SLICE OF INTEGERS THAT CAME IN: it is nil; or it leads to a row of 'cap' cells, the numbers 'zs' (the first 'len' are its elements, the rest its spare room), each fitting its kind. -/
def IsRow (k : IntKind) (w : World) (a : Option Addr) (len cap : Nat) (zs : List Int) : Prop :=
  (a = none ∧ len = 0 ∧ cap = 0 ∧ zs = []) ∨
  ∃ x, a = some x ∧ len ≤ cap ∧ cap ≤ maxLen ∧ zs.length = cap ∧ (∀ i, i < zs.length → w.cell? (x.add i) = some (.int k (zs.getD i 0))) ∧ ∀ n ∈ zs, (Lit.int k n).wf = true

/-! ### STEP 1: THE WALK: the Go text returns true, AND WRITES NOTHING THAT WAS THERE: 'Below w.heap.size w w'' (Derived/Below.lean: '.refl', '.alloc', '.drew', '.setCell' at a new block, '.trans'). Open each 'IsRow' by 'rcases' AHEAD of 'go_enter'; part every test ahead of the walk. -/
set_option maxRecDepth 100000 in
set_option maxHeartbeats 8000000 in
theorem walk (a0 : Option Addr) (len0 cap0 : Nat) (z0 : List Int) (w : World) (w0 : IsRow .u8 w a0 len0 cap0 z0) :
    Calls Try.prog 4 #[.slice a0 len0 cap0] w fun e w' => e = .returned (.bool true) ∧ Below w.heap.size w w' := by
  obtain ⟨zs, hn, hr, hb⟩ := rd_of_row w0
  clear w0
  by_cases hbig : 1048576 < len0
  · have hd : decide ((1048576 : Int) < (len0 : Int)) = true := by simp; omega
    go_enter Try.func4, Try.ntmps4
    go_wp2_with fail
    refine (big_any a0 len0 cap0 w).mono ?_
    rintro e w1 ⟨rfl, hw⟩
    obtain rfl := hw.symm
    rw [hd]
    go_wp2
    go_ret
    exact ⟨rfl, Below.refl _ _⟩
  have hd : decide ((1048576 : Int) < (len0 : Int)) = false := by simp; omega
  have hcD := drawGetInode_any a0 len0 cap0 zs w hn (by omega) hr hb
  have CD : Hid (∀ W : World, Below w.heap.size w W → Calls Try.prog 23 #[.slice a0 len0 cap0] W fun e w' => DrawnS W e w') := fun W hW => drawSameInode_any a0 len0 cap0 zs W hn (by omega) (hr.keep hW) hb
  clear hn hr hb
  go_enter Try.func4, Try.ntmps4
  go_wp2_with fail
  refine (big_any a0 len0 cap0 w).mono ?_
  rintro e w1 ⟨rfl, hw⟩
  obtain rfl := hw.symm
  rw [hd]
  clear hd hbig
  go_wp2_with fail
  (with_reducible refine hcD.mono ?_)
  rintro e w1 ⟨g, m, c, ys, rfl, ob, hby, hm, b1⟩
  clear hcD
  have hcG := getIO (some ⟨g, 0, none⟩) m c ys w1 ob.len (by omega) ob.cap' ob.rd' hby
  go_wp2_with fail
  (with_reducible refine hcG.mono ?_)
  rintro e w2 ⟨⟨e1, f1, e2, f2, e3, f3, rfl, hG⟩, b2⟩
  have CG : Hid (∀ W : World, Below w1.heap.size w1 W → Own W g m c ys → Calls Try.prog 22 #[.slice (some ⟨g, 0, none⟩) m c] W fun e w' => GetOut W.heap.size w' ys e ∧ Below W.heap.size W w') := fun W _ ho => getSO (some ⟨g, 0, none⟩) m c ys W ho.len (by omega) ho.cap' ho.rd' hby
  have HM : Hid _ := ob.len
  have hEnc : Hid (gOk ys = true → inoEnc (gR ys) = ys ∧ inoOk (gR ys) = true) := fun h => by
    have e : gR ys = gD ys := by unfold gR; rw [if_pos h]
    rw [e]
    refine ⟨enc_gD hby h, ?_⟩
    unfold gOk at h
    simp only [Bool.and_eq_true] at h
    exact h.2
  have hsm : InoSmall (gR ys) := gR_small ys (by rw [HM.out]; omega)
  unfold GetOut at CG
  obtain ⟨ok, hok⟩ : ∃ k, gOk ys = k := ⟨_, rfl⟩
  obtain ⟨D, hD⟩ : ∃ k, gR ys = k := ⟨_, rfl⟩
  rw [hok] at hEnc CG ⊢
  rw [hD] at hEnc hsm CG hG ⊢
  clear hok hD hcG
  have ob2 := ob.keep b2 (World.ownsRow.lt ob g rfl).2
  have b2' : Below w2.heap.size w2 (w2.alloc (.cells #[.int .i64 D.ino, .int .i64 D.kind, .int .i64 D.links, .slice e1 D.data.length f1, .slice e2 D.ents.length f2, .slice e3 D.attrs.length f3] 27)) := (Below.refl _ w2).alloc (Nat.le_refl _) _
  have zx := Blk.new w2 27 #[.int .i64 D.ino, .int .i64 D.kind, .int .i64 D.links, .slice e1 D.data.length f1, .slice e2 D.ents.length f2, .slice e3 D.attrs.length f3]
  have ob3 := ob2.keep b2' (World.ownsRow.lt ob2 g rfl).2
  have hrx := InoRd.keep (inoG_read hG) b2'
  have B2 := below_t b2 b2'
  clear ob ob2 b2' b2 hG
  go_upto_region 5 with fail
  obtain ⟨W2, hW2⟩ : ∃ W, w2.alloc (.cells #[.int .i64 D.ino, .int .i64 D.kind, .int .i64 D.links, .slice e1 D.data.length f1, .slice e2 D.ents.length f2, .slice e3 D.attrs.length f3] 27) = W := ⟨_, rfl⟩
  obtain ⟨X, hX⟩ : ∃ X, w2.heap.size = X := ⟨_, rfl⟩
  rw [hW2] at zx ob3 hrx B2 ⊢
  rw [hX] at zx ⊢
  clear hW2 hX
  go_wp2_with fail
  (with_reducible refine (CG.out W2 B2 ob3).mono ?_)
  rintro e w3 ⟨⟨g1, h1, g2, h2, g3, h3, rfl, _⟩, b3⟩
  clear CG
  have b3' : Below w3.heap.size w3 (w3.alloc (.cells #[.int .i64 D.ino, .int .i64 D.kind, .int .i64 D.links, .slice g1 D.data.length h1, .slice g2 D.ents.length h2, .slice g3 D.attrs.length h3] 27)) := (Below.refl _ w3).alloc (Nat.le_refl _) _
  have b23 := below_t b3 b3'
  have zx3 := zx.keep b23
  have ob4 := ob3.keep b23 (World.ownsRow.lt ob3 g rfl).2
  have hrx3 := InoRd.keep hrx b23
  have B3 := below_t B2 b23
  clear zx ob3 hrx b3 b3' b23 B2
  go_upto_region 6 with fail
  obtain ⟨W3, hW3⟩ : ∃ W, w3.alloc (.cells #[.int .i64 D.ino, .int .i64 D.kind, .int .i64 D.links, .slice g1 D.data.length h1, .slice g2 D.ents.length h2, .slice g3 D.attrs.length h3] 27) = W := ⟨_, rfl⟩
  obtain ⟨Y, hY⟩ : ∃ X, w3.heap.size = X := ⟨_, rfl⟩
  rw [hW3] at zx3 ob4 hrx3 B3 ⊢
  rw [hY]
  clear hW3 hY
  have B3' := b1.trans (B3.mono b1.size)
  go_wp2_with fail
  (with_reducible refine (CD.out W3 B3').mono ?_)
  rintro e w4 ⟨P, p1, q1, p2, q2, p3, q3, Q, r1, s1, r2, s2, r3, s3, rfl, hP, hQ, aP, aQ, b4⟩
  clear CD
  have zx4 := zx3.keep b4
  have ob5 := ob4.keep b4 (World.ownsRow.lt ob4 g rfl).2
  have hrx4 := InoRd.keep hrx3 b4
  have B4 := below_t B3' b4
  clear zx3 ob4 hrx3 B3 B3' b4 b1
  go_upto_region 7 with fail
  have bA : Below w4.heap.size w4 (w4.alloc (.cells #[.int .i64 P.ino, .int .i64 P.kind, .int .i64 P.links, .slice p1 P.data.length q1, .slice p2 P.ents.length q2, .slice p3 P.attrs.length q3] 27)) := (Below.refl _ w4).alloc (Nat.le_refl _) _
  obtain ⟨W4, hW4⟩ : ∃ W, (w4.alloc (.cells #[.int .i64 P.ino, .int .i64 P.kind, .int .i64 P.links, .slice p1 P.data.length q1, .slice p2 P.ents.length q2, .slice p3 P.attrs.length q3] 27)).alloc (.cells #[.int .i64 Q.ino, .int .i64 Q.kind, .int .i64 Q.links, .slice r1 Q.data.length s1, .slice r2 Q.ents.length s2, .slice r3 Q.attrs.length s3] 27) = W := ⟨_, rfl⟩
  have bB : Below w4.heap.size w4 W4 := by rw [← hW4]; exact bA.alloc (by simp) _
  have zp : Blk W4 w4.heap.size 27 #[.int .i64 P.ino, .int .i64 P.kind, .int .i64 P.links, .slice p1 P.data.length q1, .slice p2 P.ents.length q2, .slice p3 P.attrs.length q3] := by rw [← hW4]; exact (Blk.new w4 27 #[.int .i64 P.ino, .int .i64 P.kind, .int .i64 P.links, .slice p1 P.data.length q1, .slice p2 P.ents.length q2, .slice p3 P.attrs.length q3]).alloc _
  have zq : Blk W4 (w4.heap.size + 1) 27 #[.int .i64 Q.ino, .int .i64 Q.kind, .int .i64 Q.links, .slice r1 Q.data.length s1, .slice r2 Q.ents.length s2, .slice r3 Q.attrs.length s3] := by
    rw [← hW4]
    have := Blk.new (w4.alloc (.cells #[.int .i64 P.ino, .int .i64 P.kind, .int .i64 P.links, .slice p1 P.data.length q1, .slice p2 P.ents.length q2, .slice p3 P.attrs.length q3] 27)) 27 #[.int .i64 Q.ino, .int .i64 Q.kind, .int .i64 Q.links, .slice r1 Q.data.length s1, .slice r2 Q.ents.length s2, .slice r3 Q.attrs.length s3]
    simpa using this
  have zx := zx4.keep bB
  have ob := ob5.keep bB (World.ownsRow.lt ob5 g rfl).2
  have hrx := InoRd.keep hrx4 bB
  have hP' := InoRd.keep hP bB
  have hQ' := InoRd.keep hQ bB
  have B5 := B4.trans (bB.mono B4.size)
  obtain ⟨H, hH⟩ : ∃ X, w4.heap.size = X := ⟨_, rfl⟩
  rw [hH] at zp zq
  rw [hW4, hH]
  clear hW4 hH bA bB zx4 ob5 hrx4 hP hQ B4
  have C1 : Hid (∀ W : World, Below W4.heap.size W4 W → Calls Try.prog 20 #[.agg #[.int .i64 P.ino, .int .i64 P.kind, .int .i64 P.links, .slice p1 P.data.length q1, .slice p2 P.ents.length q2, .slice p3 P.attrs.length q3], .agg #[.int .i64 Q.ino, .int .i64 Q.kind, .int .i64 Q.links, .slice r1 Q.data.length s1, .slice r2 Q.ents.length s2, .slice r3 Q.attrs.length s3]] W fun e w' => e = .returned (.bool (sameOf P Q)) ∧ Below W.heap.size W w') := fun W hW => sameI P Q p1 p2 p3 r1 r2 r3 q1 q2 q3 s1 s2 s3 W aP.small aQ.small (InoRd.keep hP' hW) (InoRd.keep hQ' hW)
  have C2 : Hid (∀ W : World, Below W4.heap.size W4 W → Calls Try.prog 25 #[.agg #[.int .i64 P.ino, .int .i64 P.kind, .int .i64 P.links, .slice p1 P.data.length q1, .slice p2 P.ents.length q2, .slice p3 P.attrs.length q3], .agg #[.int .i64 Q.ino, .int .i64 Q.kind, .int .i64 Q.links, .slice r1 Q.data.length s1, .slice r2 Q.ents.length s2, .slice r3 Q.attrs.length s3]] W fun e w' => e = .returned (.bool (sameOf P Q)) ∧ Below W.heap.size W w') := fun W hW => sameS P Q p1 p2 p3 r1 r2 r3 q1 q2 q3 s1 s2 s3 W aP.small aQ.small (InoRd.keep hP' hW) (InoRd.keep hQ' hW)
  have C3 : Hid (∀ W : World, Below W4.heap.size W4 W → Calls Try.prog 20 #[.agg #[.int .i64 P.ino, .int .i64 P.kind, .int .i64 P.links, .slice p1 P.data.length q1, .slice p2 P.ents.length q2, .slice p3 P.attrs.length q3], .agg #[.int .i64 P.ino, .int .i64 P.kind, .int .i64 P.links, .slice p1 P.data.length q1, .slice p2 P.ents.length q2, .slice p3 P.attrs.length q3]] W fun e w' => e = .returned (.bool true) ∧ Below W.heap.size W w') := fun W hW => by
    have := sameI P P p1 p2 p3 p1 p2 p3 q1 q2 q3 q1 q2 q3 W aP.small aP.small (InoRd.keep hP' hW) (InoRd.keep hP' hW)
    rw [sameOf_self] at this
    exact this
  generalize sameOf P Q = sb at C1 C2
  have hbb : (sb == sb) = true := by simp
  have HB : Hid _ := B5
  cases ok with
  | false =>
    have HX : Hid (∀ W : World, Below W4.heap.size W4 W → (fun W : World => W.cell? ⟨H, 0, none⟩ = some (.int .i64 P.ino) ∧ W.cell? ⟨H, 1, none⟩ = some (.int .i64 P.kind) ∧ W.cell? ⟨H, 2, none⟩ = some (.int .i64 P.links) ∧ W.cell? ⟨H, 3, none⟩ = some (.slice p1 P.data.length q1) ∧ W.cell? ⟨H, 4, none⟩ = some (.slice p2 P.ents.length q2) ∧ W.cell? ⟨H, 5, none⟩ = some (.slice p3 P.attrs.length q3) ∧ W.cell? ⟨H + 1, 0, none⟩ = some (.int .i64 Q.ino) ∧ W.cell? ⟨H + 1, 1, none⟩ = some (.int .i64 Q.kind) ∧ W.cell? ⟨H + 1, 2, none⟩ = some (.int .i64 Q.links) ∧ W.cell? ⟨H + 1, 3, none⟩ = some (.slice r1 Q.data.length s1) ∧ W.cell? ⟨H + 1, 4, none⟩ = some (.slice r2 Q.ents.length s2) ∧ W.cell? ⟨H + 1, 5, none⟩ = some (.slice r3 Q.attrs.length s3)) W) := fun W hW => by
      obtain ⟨i0, i1, i2, i3, i4, i5⟩ := (zp.keep hW).six
      obtain ⟨j0, j1, j2, j3, j4, j5⟩ := (zq.keep hW).six
      exact ⟨i0, i1, i2, i3, i4, i5, j0, j1, j2, j3, j4, j5⟩
    obtain ⟨i0, i1, i2, i3, i4, i5, j0, j1, j2, j3, j4, j5⟩ := HX.out W4 (Below.refl _ _)
    clear zp zq zx hP' hQ' hrx ob hEnc hsm B5
    refine wp_region_noPanic ?_
    refine wp_region_held_drew (S := fun W : World => W.cell? ⟨H, 0, none⟩ = some (.int .i64 P.ino) ∧ W.cell? ⟨H, 1, none⟩ = some (.int .i64 P.kind) ∧ W.cell? ⟨H, 2, none⟩ = some (.int .i64 P.links) ∧ W.cell? ⟨H, 3, none⟩ = some (.slice p1 P.data.length q1) ∧ W.cell? ⟨H, 4, none⟩ = some (.slice p2 P.ents.length q2) ∧ W.cell? ⟨H, 5, none⟩ = some (.slice p3 P.attrs.length q3) ∧ W.cell? ⟨H + 1, 0, none⟩ = some (.int .i64 Q.ino) ∧ W.cell? ⟨H + 1, 1, none⟩ = some (.int .i64 Q.kind) ∧ W.cell? ⟨H + 1, 2, none⟩ = some (.int .i64 Q.links) ∧ W.cell? ⟨H + 1, 3, none⟩ = some (.slice r1 Q.data.length s1) ∧ W.cell? ⟨H + 1, 4, none⟩ = some (.slice r2 Q.ents.length s2) ∧ W.cell? ⟨H + 1, 5, none⟩ = some (.slice r3 Q.attrs.length s3)) (by kernel_rfl) (by go_keep) (fun hS => ?_)
    refine wpAnyH_take (i := 0) (v := ?v1) rfl (by kernel_rfl) (by kernel_rfl) (by kernel_rfl) (fun _ _ _ h => h) (Or.inl ⟨by kernel_rfl, ?y1⟩) (by assumption) ?r1
    case y1 => (intro w' hSw; (try dsimp only at hSw); go_simp; (try with_reducible rfl))
    try simp only [Act.put, List.setIfInBounds_toArray, List.set_cons_zero, List.set_cons_succ, List.getElem_toArray, List.getElem_cons_zero]
    refine wpAnyH_take (i := 1) (v := ?v2) rfl (by kernel_rfl) (by kernel_rfl) (by kernel_rfl) (fun _ _ _ h => h) (Or.inl ⟨by kernel_rfl, ?y2⟩) (by assumption) ?r2
    case y2 => (intro w' hSw; (try dsimp only at hSw); go_simp; (try with_reducible rfl))
    try simp only [Act.put, List.setIfInBounds_toArray, List.set_cons_zero, List.set_cons_succ, List.getElem_toArray, List.getElem_cons_succ, List.getElem_cons_zero]
    refine wpAnyH_take (i := 2) (v := ?v3) rfl (by kernel_rfl) (by kernel_rfl) (by kernel_rfl) (fun _ _ _ h => h) (Or.inl ⟨by kernel_rfl, ?y3⟩) (by assumption) ?r3
    case y3 => (intro w' hSw; (try dsimp only at hSw); go_simp; (try with_reducible rfl))
    try simp only [Act.put, List.setIfInBounds_toArray, List.set_cons_zero, List.set_cons_succ, List.getElem_toArray, List.getElem_cons_succ, List.getElem_cons_zero]
    refine wpAnyH_take (i := 3) (v := ?v4) rfl (by kernel_rfl) (by kernel_rfl) (by kernel_rfl) (fun _ _ _ h => h) (Or.inl ⟨by kernel_rfl, ?y4⟩) (by assumption) ?r4
    case y4 => (intro w' hSw; (try dsimp only at hSw); go_simp; (try with_reducible rfl))
    try simp only [Act.put, List.setIfInBounds_toArray, List.set_cons_zero, List.set_cons_succ, List.getElem_toArray, List.getElem_cons_succ, List.getElem_cons_zero]
    refine wpAnyH_take (i := 4) (v := ?v5) rfl (by kernel_rfl) (by kernel_rfl) (by kernel_rfl) (fun _ _ _ h => h) (Or.inl ⟨by kernel_rfl, ?y5⟩) (by assumption) ?r5
    case y5 => (intro w' hSw; (try dsimp only at hSw); go_simp; (try with_reducible rfl))
    try simp only [Act.put, List.setIfInBounds_toArray, List.set_cons_zero, List.set_cons_succ, List.getElem_toArray, List.getElem_cons_succ, List.getElem_cons_zero]
    refine wpAnyH_take (i := 5) (v := ?v6) rfl (by kernel_rfl) (by kernel_rfl) (by kernel_rfl) (fun _ _ _ h => h) (Or.inl ⟨by kernel_rfl, ?y6⟩) (by assumption) ?r6
    case y6 => (intro w' hSw; (try dsimp only at hSw); go_simp; (try with_reducible rfl))
    try simp only [Act.put, List.setIfInBounds_toArray, List.set_cons_zero, List.set_cons_succ, List.getElem_toArray, List.getElem_cons_succ, List.getElem_cons_zero]
    refine wpAnyH_take (i := 6) (v := ?v7) rfl (by kernel_rfl) (by kernel_rfl) (by kernel_rfl) (fun _ _ _ h => h) (Or.inl ⟨by kernel_rfl, ?y7⟩) (by assumption) ?r7
    case y7 => (intro w' hSw; (try dsimp only at hSw); go_simp; (try with_reducible rfl))
    try simp only [Act.put, List.setIfInBounds_toArray, List.set_cons_zero, List.set_cons_succ, List.getElem_toArray, List.getElem_cons_succ, List.getElem_cons_zero]
    refine wpAnyH_take (i := 7) (v := undef) rfl (by kernel_rfl) (by kernel_rfl) (by kernel_rfl) (fun _ _ _ h => h) (Or.inr ⟨by kernel_rfl, rfl⟩) (by assumption) ?_
    try simp only [Act.put, List.setIfInBounds_toArray, List.set_cons_zero, List.set_cons_succ, List.getElem_toArray, List.getElem_cons_succ, List.getElem_cons_zero]
    refine wpAnyH_take (i := 8) (v := undef) rfl (by kernel_rfl) (by kernel_rfl) (by kernel_rfl) (fun _ _ _ h => h) (Or.inr ⟨by kernel_rfl, rfl⟩) (by assumption) ?_
    try simp only [Act.put, List.setIfInBounds_toArray, List.set_cons_zero, List.set_cons_succ, List.getElem_toArray, List.getElem_cons_succ, List.getElem_cons_zero]
    refine wpAnyH_take (i := 9) (v := undef) rfl (by kernel_rfl) (by kernel_rfl) (by kernel_rfl) (fun _ _ _ h => h) (Or.inr ⟨by kernel_rfl, rfl⟩) (by assumption) ?_
    try simp only [Act.put, List.setIfInBounds_toArray, List.set_cons_zero, List.set_cons_succ, List.getElem_toArray, List.getElem_cons_succ, List.getElem_cons_zero]
    refine wpAnyH_take (i := 10) (v := undef) rfl (by kernel_rfl) (by kernel_rfl) (by kernel_rfl) (fun _ _ _ h => h) (Or.inr ⟨by kernel_rfl, rfl⟩) (by assumption) ?_
    try simp only [Act.put, List.setIfInBounds_toArray, List.set_cons_zero, List.set_cons_succ, List.getElem_toArray, List.getElem_cons_succ, List.getElem_cons_zero]
    refine wpAnyH_take (i := 11) (v := undef) rfl (by kernel_rfl) (by kernel_rfl) (by kernel_rfl) (fun _ _ _ h => h) (Or.inr ⟨by kernel_rfl, rfl⟩) (by assumption) ?_
    try simp only [Act.put, List.setIfInBounds_toArray, List.set_cons_zero, List.set_cons_succ, List.getElem_toArray, List.getElem_cons_succ, List.getElem_cons_zero]
    refine wpAnyH_take (i := 12) (v := undef) rfl (by kernel_rfl) (by kernel_rfl) (by kernel_rfl) (fun _ _ _ h => h) (Or.inr ⟨by kernel_rfl, rfl⟩) (by assumption) ?_
    try simp only [Act.put, List.setIfInBounds_toArray, List.set_cons_zero, List.set_cons_succ, List.getElem_toArray, List.getElem_cons_succ, List.getElem_cons_zero]
    refine wpAnyH_take (i := 13) (v := undef) rfl (by kernel_rfl) (by kernel_rfl) (by kernel_rfl) (fun _ _ _ h => h) (Or.inr ⟨by kernel_rfl, rfl⟩) (by assumption) ?_
    try simp only [Act.put, List.setIfInBounds_toArray, List.set_cons_zero, List.set_cons_succ, List.getElem_toArray, List.getElem_cons_succ, List.getElem_cons_zero]
    refine wpAnyH_take (i := 14) (v := undef) rfl (by kernel_rfl) (by kernel_rfl) (by kernel_rfl) (fun _ _ _ h => h) (Or.inr ⟨by kernel_rfl, rfl⟩) (by assumption) ?_
    try simp only [Act.put, List.setIfInBounds_toArray, List.set_cons_zero, List.set_cons_succ, List.getElem_toArray, List.getElem_cons_succ, List.getElem_cons_zero]
    refine wpAnyH_take (i := 15) (v := ?v8) rfl (by kernel_rfl) (by kernel_rfl) (by kernel_rfl) (fun _ _ _ h => h) (Or.inl ⟨by kernel_rfl, ?y8⟩) (by assumption) ?r8
    case y8 => (intro w' hSw; (try dsimp only at hSw); go_simp; (try with_reducible rfl))
    try simp only [Act.put, List.setIfInBounds_toArray, List.set_cons_zero, List.set_cons_succ, List.getElem_toArray, List.getElem_cons_succ, List.getElem_cons_zero]
    refine wpAnyH_take (i := 16) (v := ?v9) rfl (by kernel_rfl) (by kernel_rfl) (by kernel_rfl) (fun _ _ _ h => h) (Or.inl ⟨by kernel_rfl, ?y9⟩) (by assumption) ?r9
    case y9 => (intro w' hSw; (try dsimp only at hSw); go_simp; (try with_reducible rfl))
    try simp only [Act.put, List.setIfInBounds_toArray, List.set_cons_zero, List.set_cons_succ, List.getElem_toArray, List.getElem_cons_succ, List.getElem_cons_zero]
    refine wpAnyH_take (i := 17) (v := ?v10) rfl (by kernel_rfl) (by kernel_rfl) (by kernel_rfl) (fun _ _ _ h => h) (Or.inl ⟨by kernel_rfl, ?y10⟩) (by assumption) ?r10
    case y10 => (intro w' hSw; (try dsimp only at hSw); go_simp; (try with_reducible rfl))
    try simp only [Act.put, List.setIfInBounds_toArray, List.set_cons_zero, List.set_cons_succ, List.getElem_toArray, List.getElem_cons_succ, List.getElem_cons_zero]
    refine wpAnyH_take (i := 18) (v := ?v11) rfl (by kernel_rfl) (by kernel_rfl) (by kernel_rfl) (fun _ _ _ h => h) (Or.inl ⟨by kernel_rfl, ?y11⟩) (by assumption) ?r11
    case y11 => (intro w' hSw; (try dsimp only at hSw); go_simp; (try with_reducible rfl))
    try simp only [Act.put, List.setIfInBounds_toArray, List.set_cons_zero, List.set_cons_succ, List.getElem_toArray, List.getElem_cons_succ, List.getElem_cons_zero]
    refine wpAnyH_take (i := 19) (v := ?v12) rfl (by kernel_rfl) (by kernel_rfl) (by kernel_rfl) (fun _ _ _ h => h) (Or.inl ⟨by kernel_rfl, ?y12⟩) (by assumption) ?r12
    case y12 => (intro w' hSw; (try dsimp only at hSw); go_simp; (try with_reducible rfl))
    try simp only [Act.put, List.setIfInBounds_toArray, List.set_cons_zero, List.set_cons_succ, List.getElem_toArray, List.getElem_cons_succ, List.getElem_cons_zero]
    refine wpAnyH_take (i := 21) (v := ?v13) rfl (by kernel_rfl) (by kernel_rfl) (by kernel_rfl) (fun _ _ _ h => h) (Or.inl ⟨by kernel_rfl, ?y13⟩) (by assumption) ?r13
    case y13 => (intro w' hSw; (try dsimp only at hSw); go_simp; (try with_reducible rfl))
    try simp only [Act.put, List.setIfInBounds_toArray, List.set_cons_zero, List.set_cons_succ, List.getElem_toArray, List.getElem_cons_succ, List.getElem_cons_zero]
    refine wpAnyH_take (i := 22) (v := ?v14) rfl (by kernel_rfl) (by kernel_rfl) (by kernel_rfl) (fun _ _ _ h => h) (Or.inl ⟨by kernel_rfl, ?y14⟩) (by assumption) ?r14
    case y14 => (intro w' hSw; (try dsimp only at hSw); go_simp; (try with_reducible rfl))
    try simp only [Act.put, List.setIfInBounds_toArray, List.set_cons_zero, List.set_cons_succ, List.getElem_toArray, List.getElem_cons_succ, List.getElem_cons_zero]
    refine wpAnyH_ready (rs := [20]) (by kernel_rfl) (by simp) ?_
    refine AllReadyH.cons rfl (fun K hK => ?_) AllReadyH.nil
    go_simp
    go_at_call 20
    (with_reducible refine (C1.out W4.drew (Below.refl _ W4).drew).mono ?_)
    rintro e v1 ⟨rfl, cv1⟩
    have Dv1 := below_t (Below.refl _ W4).drew cv1
    clear hS
    dsimp only
    refine Shut.out hK _ _ (HX.out v1 Dv1) (fun hS => ?_)
    try simp only [Act.put, List.setIfInBounds_toArray, List.set_cons_zero, List.set_cons_succ, List.getElem_toArray, List.getElem_cons_succ, List.getElem_cons_zero]
    refine wpAnyH_ready (rs := [23]) (by kernel_rfl) (by simp) ?_
    refine AllReadyH.cons rfl (fun K hK => ?_) AllReadyH.nil
    go_simp
    go_at_call 25
    (with_reducible refine (C2.out v1 Dv1).mono ?_)
    rintro e v2 ⟨rfl, cv2⟩
    have Dv2 := below_t Dv1 cv2
    clear hS
    dsimp only
    refine Shut.out hK _ _ (HX.out v2 Dv2) (fun hS => ?_)
    try simp only [Act.put, List.setIfInBounds_toArray, List.set_cons_zero, List.set_cons_succ, List.getElem_toArray, List.getElem_cons_succ, List.getElem_cons_zero]
    refine wpAnyH_take (i := 24) (v := ?v15) rfl (by kernel_rfl) (by kernel_rfl) (by kernel_rfl) (fun _ _ _ h => h) (Or.inl ⟨by kernel_rfl, ?y15⟩) (by assumption) ?r15
    case y15 => (intro w' hSw; (try dsimp only at hSw); go_simp; (try with_reducible rfl))
    try simp only [Act.put, List.setIfInBounds_toArray, List.set_cons_zero, List.set_cons_succ, List.getElem_toArray, List.getElem_cons_succ, List.getElem_cons_zero]
    refine wpAnyH_take (i := 25) (v := ?v16) rfl (by kernel_rfl) (by kernel_rfl) (by kernel_rfl) (fun _ _ _ h => h) (Or.inl ⟨by kernel_rfl, ?y16⟩) (by assumption) ?r16
    case y16 => (intro w' hSw; (try dsimp only at hSw); go_simp; (try with_reducible rfl))
    try simp only [Act.put, List.setIfInBounds_toArray, List.set_cons_zero, List.set_cons_succ, List.getElem_toArray, List.getElem_cons_succ, List.getElem_cons_zero]
    refine wpAnyH_take (i := 26) (v := ?v17) rfl (by kernel_rfl) (by kernel_rfl) (by kernel_rfl) (fun _ _ _ h => h) (Or.inl ⟨by kernel_rfl, ?y17⟩) (by assumption) ?r17
    case y17 => (intro w' hSw; (try dsimp only at hSw); go_simp; (try with_reducible rfl))
    try simp only [Act.put, List.setIfInBounds_toArray, List.set_cons_zero, List.set_cons_succ, List.getElem_toArray, List.getElem_cons_succ, List.getElem_cons_zero]
    refine wpAnyH_take (i := 27) (v := ?v18) rfl (by kernel_rfl) (by kernel_rfl) (by kernel_rfl) (fun _ _ _ h => h) (Or.inl ⟨by kernel_rfl, ?y18⟩) (by assumption) ?r18
    case y18 => (intro w' hSw; (try dsimp only at hSw); go_simp; (try with_reducible rfl))
    try simp only [Act.put, List.setIfInBounds_toArray, List.set_cons_zero, List.set_cons_succ, List.getElem_toArray, List.getElem_cons_succ, List.getElem_cons_zero]
    refine wpAnyH_take (i := 28) (v := ?v19) rfl (by kernel_rfl) (by kernel_rfl) (by kernel_rfl) (fun _ _ _ h => h) (Or.inl ⟨by kernel_rfl, ?y19⟩) (by assumption) ?r19
    case y19 => (intro w' hSw; (try dsimp only at hSw); go_simp; (try with_reducible rfl))
    try simp only [Act.put, List.setIfInBounds_toArray, List.set_cons_zero, List.set_cons_succ, List.getElem_toArray, List.getElem_cons_succ, List.getElem_cons_zero]
    refine wpAnyH_ready (rs := [29]) (by kernel_rfl) (by simp) ?_
    refine AllReadyH.cons rfl (fun K hK => ?_) AllReadyH.nil
    go_simp
    go_at_call 20
    (with_reducible refine (C3.out v2 Dv2).mono ?_)
    rintro e v3 ⟨rfl, cv3⟩
    have Dv3 := below_t Dv2 cv3
    clear hS
    dsimp only
    refine Shut.out hK _ _ (HX.out v3 Dv3) (fun hS => ?_)
    try simp only [Act.put, List.setIfInBounds_toArray, List.set_cons_zero, List.set_cons_succ, List.getElem_toArray, List.getElem_cons_succ, List.getElem_cons_zero]
    refine wpAnyH_take (i := 30) (v := ?v20) rfl (by kernel_rfl) (by kernel_rfl) (by kernel_rfl) (fun _ _ _ h => h) (Or.inl ⟨by kernel_rfl, ?y20⟩) (by assumption) ?r20
    case y20 => (intro w' hSw; (try dsimp only at hSw); go_simp; (try with_reducible rfl))
    try simp only [Act.put, List.setIfInBounds_toArray, List.set_cons_zero, List.set_cons_succ, List.getElem_toArray, List.getElem_cons_succ, List.getElem_cons_zero]
    refine wpAnyH_take (i := 31) (v := ?v21) rfl (by kernel_rfl) (by kernel_rfl) (by kernel_rfl) (fun _ _ _ h => h) (Or.inl ⟨by kernel_rfl, ?y21⟩) (by assumption) ?r21
    case y21 => (intro w' hSw; (try dsimp only at hSw); go_simp; (try with_reducible rfl))
    try simp only [Act.put, List.setIfInBounds_toArray, List.set_cons_zero, List.set_cons_succ, List.getElem_toArray, List.getElem_cons_succ, List.getElem_cons_zero]
    refine wpAnyH_done (by kernel_rfl) (NoPanic.normal ?_) _
    go_wp2_with fail
    go_ret
    exact ⟨rfl, below_t HB.out Dv3⟩
  | true =>
    obtain ⟨hen, hio⟩ := hEnc.out rfl
    have CO : Hid (∀ W : World, Below W4.heap.size W4 W → Calls Try.prog 17 #[.agg #[.int .i64 D.ino, .int .i64 D.kind, .int .i64 D.links, .slice e1 D.data.length f1, .slice e2 D.ents.length f2, .slice e3 D.attrs.length f3]] W fun e w' => e = .returned (.bool true) ∧ Below W.heap.size W w') := fun W hW => by
      have := inoOkI D e1 e2 e3 f1 f2 f3 W hsm (InoRd.keep hrx hW)
      rw [hio] at this
      exact this
    have CP : Hid (∀ W : World, Below W4.heap.size W4 W → Calls Try.prog 15 #[.agg #[.int .i64 D.ino, .int .i64 D.kind, .int .i64 D.links, .slice e1 D.data.length f1, .slice e2 D.ents.length f2, .slice e3 D.attrs.length f3]] W (PutPost W m ys)) := fun W hW => by
      have := putI_yes D e1 e2 e3 f1 f2 f3 W hsm (InoRd.keep hrx hW) hio
      rw [hen, HM.out] at this
      exact this
    have CB : Hid (∀ (W : World) (gb cb : Nat), Below W4.heap.size W4 W → Own W gb m cb ys → Calls Try.prog 24 #[.slice (some ⟨gb, 0, none⟩) m cb, .slice (some ⟨g, 0, none⟩) m c] W fun e w' => e = .returned (.bool true) ∧ Below W.heap.size W w') := fun W gb cb hW ho => sameL_self (some ⟨gb, 0, none⟩) (some ⟨g, 0, none⟩) m cb c ys W HM.out (by omega) ho.rd' (Own.rd' (ob.keep hW (World.ownsRow.lt ob g rfl).2))
    have HX : Hid (∀ W : World, Below W4.heap.size W4 W → (fun W : World => W.cell? ⟨X, 0, none⟩ = some (.int .i64 D.ino) ∧ W.cell? ⟨X, 1, none⟩ = some (.int .i64 D.kind) ∧ W.cell? ⟨X, 2, none⟩ = some (.int .i64 D.links) ∧ W.cell? ⟨X, 3, none⟩ = some (.slice e1 D.data.length f1) ∧ W.cell? ⟨X, 4, none⟩ = some (.slice e2 D.ents.length f2) ∧ W.cell? ⟨X, 5, none⟩ = some (.slice e3 D.attrs.length f3) ∧ W.cell? ⟨H, 0, none⟩ = some (.int .i64 P.ino) ∧ W.cell? ⟨H, 1, none⟩ = some (.int .i64 P.kind) ∧ W.cell? ⟨H, 2, none⟩ = some (.int .i64 P.links) ∧ W.cell? ⟨H, 3, none⟩ = some (.slice p1 P.data.length q1) ∧ W.cell? ⟨H, 4, none⟩ = some (.slice p2 P.ents.length q2) ∧ W.cell? ⟨H, 5, none⟩ = some (.slice p3 P.attrs.length q3) ∧ W.cell? ⟨H + 1, 0, none⟩ = some (.int .i64 Q.ino) ∧ W.cell? ⟨H + 1, 1, none⟩ = some (.int .i64 Q.kind) ∧ W.cell? ⟨H + 1, 2, none⟩ = some (.int .i64 Q.links) ∧ W.cell? ⟨H + 1, 3, none⟩ = some (.slice r1 Q.data.length s1) ∧ W.cell? ⟨H + 1, 4, none⟩ = some (.slice r2 Q.ents.length s2) ∧ W.cell? ⟨H + 1, 5, none⟩ = some (.slice r3 Q.attrs.length s3)) W) := fun W hW => by
      obtain ⟨i0, i1, i2, i3, i4, i5⟩ := (zp.keep hW).six
      obtain ⟨j0, j1, j2, j3, j4, j5⟩ := (zq.keep hW).six
      obtain ⟨x0, x1, x2, x3, x4, x5⟩ := (zx.keep hW).six
      exact ⟨x0, x1, x2, x3, x4, x5, i0, i1, i2, i3, i4, i5, j0, j1, j2, j3, j4, j5⟩
    obtain ⟨x0, x1, x2, x3, x4, x5, i0, i1, i2, i3, i4, i5, j0, j1, j2, j3, j4, j5⟩ := HX.out W4 (Below.refl _ _)
    clear zp zq zx hP' hQ' hrx ob hEnc hsm B5 hen hio
    refine wp_region_noPanic ?_
    refine wp_region_held_drew (S := fun W : World => W.cell? ⟨X, 0, none⟩ = some (.int .i64 D.ino) ∧ W.cell? ⟨X, 1, none⟩ = some (.int .i64 D.kind) ∧ W.cell? ⟨X, 2, none⟩ = some (.int .i64 D.links) ∧ W.cell? ⟨X, 3, none⟩ = some (.slice e1 D.data.length f1) ∧ W.cell? ⟨X, 4, none⟩ = some (.slice e2 D.ents.length f2) ∧ W.cell? ⟨X, 5, none⟩ = some (.slice e3 D.attrs.length f3) ∧ W.cell? ⟨H, 0, none⟩ = some (.int .i64 P.ino) ∧ W.cell? ⟨H, 1, none⟩ = some (.int .i64 P.kind) ∧ W.cell? ⟨H, 2, none⟩ = some (.int .i64 P.links) ∧ W.cell? ⟨H, 3, none⟩ = some (.slice p1 P.data.length q1) ∧ W.cell? ⟨H, 4, none⟩ = some (.slice p2 P.ents.length q2) ∧ W.cell? ⟨H, 5, none⟩ = some (.slice p3 P.attrs.length q3) ∧ W.cell? ⟨H + 1, 0, none⟩ = some (.int .i64 Q.ino) ∧ W.cell? ⟨H + 1, 1, none⟩ = some (.int .i64 Q.kind) ∧ W.cell? ⟨H + 1, 2, none⟩ = some (.int .i64 Q.links) ∧ W.cell? ⟨H + 1, 3, none⟩ = some (.slice r1 Q.data.length s1) ∧ W.cell? ⟨H + 1, 4, none⟩ = some (.slice r2 Q.ents.length s2) ∧ W.cell? ⟨H + 1, 5, none⟩ = some (.slice r3 Q.attrs.length s3)) (by kernel_rfl) (by go_keep) (fun hS => ?_)
    refine wpAnyH_take (i := 0) (v := ?v22) rfl (by kernel_rfl) (by kernel_rfl) (by kernel_rfl) (fun _ _ _ h => h) (Or.inl ⟨by kernel_rfl, ?y22⟩) (by assumption) ?r22
    case y22 => (intro w' hSw; (try dsimp only at hSw); go_simp; (try with_reducible rfl))
    try simp only [Act.put, List.setIfInBounds_toArray, List.set_cons_zero, List.set_cons_succ, List.getElem_toArray, List.getElem_cons_zero]
    refine wpAnyH_take (i := 1) (v := ?v23) rfl (by kernel_rfl) (by kernel_rfl) (by kernel_rfl) (fun _ _ _ h => h) (Or.inl ⟨by kernel_rfl, ?y23⟩) (by assumption) ?r23
    case y23 => (intro w' hSw; (try dsimp only at hSw); go_simp; (try with_reducible rfl))
    try simp only [Act.put, List.setIfInBounds_toArray, List.set_cons_zero, List.set_cons_succ, List.getElem_toArray, List.getElem_cons_succ, List.getElem_cons_zero]
    refine wpAnyH_take (i := 2) (v := ?v24) rfl (by kernel_rfl) (by kernel_rfl) (by kernel_rfl) (fun _ _ _ h => h) (Or.inl ⟨by kernel_rfl, ?y24⟩) (by assumption) ?r24
    case y24 => (intro w' hSw; (try dsimp only at hSw); go_simp; (try with_reducible rfl))
    try simp only [Act.put, List.setIfInBounds_toArray, List.set_cons_zero, List.set_cons_succ, List.getElem_toArray, List.getElem_cons_succ, List.getElem_cons_zero]
    refine wpAnyH_take (i := 3) (v := ?v25) rfl (by kernel_rfl) (by kernel_rfl) (by kernel_rfl) (fun _ _ _ h => h) (Or.inl ⟨by kernel_rfl, ?y25⟩) (by assumption) ?r25
    case y25 => (intro w' hSw; (try dsimp only at hSw); go_simp; (try with_reducible rfl))
    try simp only [Act.put, List.setIfInBounds_toArray, List.set_cons_zero, List.set_cons_succ, List.getElem_toArray, List.getElem_cons_succ, List.getElem_cons_zero]
    refine wpAnyH_take (i := 4) (v := ?v26) rfl (by kernel_rfl) (by kernel_rfl) (by kernel_rfl) (fun _ _ _ h => h) (Or.inl ⟨by kernel_rfl, ?y26⟩) (by assumption) ?r26
    case y26 => (intro w' hSw; (try dsimp only at hSw); go_simp; (try with_reducible rfl))
    try simp only [Act.put, List.setIfInBounds_toArray, List.set_cons_zero, List.set_cons_succ, List.getElem_toArray, List.getElem_cons_succ, List.getElem_cons_zero]
    refine wpAnyH_take (i := 5) (v := ?v27) rfl (by kernel_rfl) (by kernel_rfl) (by kernel_rfl) (fun _ _ _ h => h) (Or.inl ⟨by kernel_rfl, ?y27⟩) (by assumption) ?r27
    case y27 => (intro w' hSw; (try dsimp only at hSw); go_simp; (try with_reducible rfl))
    try simp only [Act.put, List.setIfInBounds_toArray, List.set_cons_zero, List.set_cons_succ, List.getElem_toArray, List.getElem_cons_succ, List.getElem_cons_zero]
    refine wpAnyH_take (i := 6) (v := ?v28) rfl (by kernel_rfl) (by kernel_rfl) (by kernel_rfl) (fun _ _ _ h => h) (Or.inl ⟨by kernel_rfl, ?y28⟩) (by assumption) ?r28
    case y28 => (intro w' hSw; (try dsimp only at hSw); go_simp; (try with_reducible rfl))
    try simp only [Act.put, List.setIfInBounds_toArray, List.set_cons_zero, List.set_cons_succ, List.getElem_toArray, List.getElem_cons_succ, List.getElem_cons_zero]
    refine wpAnyH_take (i := 7) (v := ?v29) rfl (by kernel_rfl) (by kernel_rfl) (by kernel_rfl) (fun _ _ _ h => h) (Or.inl ⟨by kernel_rfl, ?y29⟩) (by assumption) ?r29
    case y29 => (intro w' hSw; (try dsimp only at hSw); go_simp; (try with_reducible rfl))
    try simp only [Act.put, List.setIfInBounds_toArray, List.set_cons_zero, List.set_cons_succ, List.getElem_toArray, List.getElem_cons_succ, List.getElem_cons_zero]
    refine wpAnyH_ready (rs := [8]) (by kernel_rfl) (by simp) ?_
    refine AllReadyH.cons rfl (fun K hK => ?_) AllReadyH.nil
    go_simp
    go_at_call 17
    (with_reducible refine (CO.out W4.drew (Below.refl _ W4).drew).mono ?_)
    rintro e u1 ⟨rfl, cu1⟩
    have Du1 := below_t (Below.refl _ W4).drew cu1
    clear hS
    dsimp only
    refine Shut.out hK _ _ (HX.out u1 Du1) (fun hS => ?_)
    try simp only [Act.put, List.setIfInBounds_toArray, List.set_cons_zero, List.set_cons_succ, List.getElem_toArray, List.getElem_cons_succ, List.getElem_cons_zero]
    refine wpAnyH_take (i := 9) (v := ?v30) rfl (by kernel_rfl) (by kernel_rfl) (by kernel_rfl) (fun _ _ _ h => h) (Or.inl ⟨by kernel_rfl, ?y30⟩) (by assumption) ?r30
    case y30 => (intro w' hSw; (try dsimp only at hSw); go_simp; (try with_reducible rfl))
    try simp only [Act.put, List.setIfInBounds_toArray, List.set_cons_zero, List.set_cons_succ, List.getElem_toArray, List.getElem_cons_succ, List.getElem_cons_zero]
    refine wpAnyH_take (i := 10) (v := ?v31) rfl (by kernel_rfl) (by kernel_rfl) (by kernel_rfl) (fun _ _ _ h => h) (Or.inl ⟨by kernel_rfl, ?y31⟩) (by assumption) ?r31
    case y31 => (intro w' hSw; (try dsimp only at hSw); go_simp; (try with_reducible rfl))
    try simp only [Act.put, List.setIfInBounds_toArray, List.set_cons_zero, List.set_cons_succ, List.getElem_toArray, List.getElem_cons_succ, List.getElem_cons_zero]
    refine wpAnyH_take (i := 12) (v := ?v32) rfl (by kernel_rfl) (by kernel_rfl) (by kernel_rfl) (fun _ _ _ h => h) (Or.inl ⟨by kernel_rfl, ?y32⟩) (by assumption) ?r32
    case y32 => (intro w' hSw; (try dsimp only at hSw); go_simp; (try with_reducible rfl))
    try simp only [Act.put, List.setIfInBounds_toArray, List.set_cons_zero, List.set_cons_succ, List.getElem_toArray, List.getElem_cons_succ, List.getElem_cons_zero]
    refine wpAnyH_ready (rs := [11]) (by kernel_rfl) (by simp) ?_
    refine AllReadyH.cons rfl (fun K hK => ?_) AllReadyH.nil
    go_simp
    go_at_call 15
    (with_reducible refine (CP.out u1 Du1).mono ?_)
    rintro e u2 ⟨gb, cb, rfl, hgb, obu, cu2⟩
    have Du2 := below_t Du1 cu2
    clear hS
    dsimp only
    refine Shut.out hK _ _ (HX.out u2 Du2) (fun hS => ?_)
    try simp only [Act.put, List.setIfInBounds_toArray, List.set_cons_zero, List.set_cons_succ, List.getElem_toArray, List.getElem_cons_succ, List.getElem_cons_zero]
    refine wpAnyH_ready (rs := [13]) (by kernel_rfl) (by simp) ?_
    refine AllReadyH.cons rfl (fun K hK => ?_) AllReadyH.nil
    go_simp
    go_at_call 24
    (with_reducible refine (CB.out u2 gb cb Du2 obu).mono ?_)
    rintro e u3 ⟨rfl, cu3⟩
    have Du3 := below_t Du2 cu3
    clear hS
    dsimp only
    refine Shut.out hK _ _ (HX.out u3 Du3) (fun hS => ?_)
    try simp only [Act.put, List.setIfInBounds_toArray, List.set_cons_zero, List.set_cons_succ, List.getElem_toArray, List.getElem_cons_succ, List.getElem_cons_zero]
    refine wpAnyH_take (i := 14) (v := ?v33) rfl (by kernel_rfl) (by kernel_rfl) (by kernel_rfl) (fun _ _ _ h => h) (Or.inl ⟨by kernel_rfl, ?y33⟩) (by assumption) ?r33
    case y33 => (intro w' hSw; (try dsimp only at hSw); go_simp; (try with_reducible rfl))
    try simp only [Act.put, List.setIfInBounds_toArray, List.set_cons_zero, List.set_cons_succ, List.getElem_toArray, List.getElem_cons_succ, List.getElem_cons_zero]
    refine wpAnyH_take (i := 15) (v := ?v34) rfl (by kernel_rfl) (by kernel_rfl) (by kernel_rfl) (fun _ _ _ h => h) (Or.inl ⟨by kernel_rfl, ?y34⟩) (by assumption) ?r34
    case y34 => (intro w' hSw; (try dsimp only at hSw); go_simp; (try with_reducible rfl))
    try simp only [Act.put, List.setIfInBounds_toArray, List.set_cons_zero, List.set_cons_succ, List.getElem_toArray, List.getElem_cons_succ, List.getElem_cons_zero]
    refine wpAnyH_take (i := 16) (v := ?v35) rfl (by kernel_rfl) (by kernel_rfl) (by kernel_rfl) (fun _ _ _ h => h) (Or.inl ⟨by kernel_rfl, ?y35⟩) (by assumption) ?r35
    case y35 => (intro w' hSw; (try dsimp only at hSw); go_simp; (try with_reducible rfl))
    try simp only [Act.put, List.setIfInBounds_toArray, List.set_cons_zero, List.set_cons_succ, List.getElem_toArray, List.getElem_cons_succ, List.getElem_cons_zero]
    refine wpAnyH_take (i := 17) (v := ?v36) rfl (by kernel_rfl) (by kernel_rfl) (by kernel_rfl) (fun _ _ _ h => h) (Or.inl ⟨by kernel_rfl, ?y36⟩) (by assumption) ?r36
    case y36 => (intro w' hSw; (try dsimp only at hSw); go_simp; (try with_reducible rfl))
    try simp only [Act.put, List.setIfInBounds_toArray, List.set_cons_zero, List.set_cons_succ, List.getElem_toArray, List.getElem_cons_succ, List.getElem_cons_zero]
    refine wpAnyH_take (i := 18) (v := ?v37) rfl (by kernel_rfl) (by kernel_rfl) (by kernel_rfl) (fun _ _ _ h => h) (Or.inl ⟨by kernel_rfl, ?y37⟩) (by assumption) ?r37
    case y37 => (intro w' hSw; (try dsimp only at hSw); go_simp; (try with_reducible rfl))
    try simp only [Act.put, List.setIfInBounds_toArray, List.set_cons_zero, List.set_cons_succ, List.getElem_toArray, List.getElem_cons_succ, List.getElem_cons_zero]
    refine wpAnyH_take (i := 19) (v := ?v38) rfl (by kernel_rfl) (by kernel_rfl) (by kernel_rfl) (fun _ _ _ h => h) (Or.inl ⟨by kernel_rfl, ?y38⟩) (by assumption) ?r38
    case y38 => (intro w' hSw; (try dsimp only at hSw); go_simp; (try with_reducible rfl))
    try simp only [Act.put, List.setIfInBounds_toArray, List.set_cons_zero, List.set_cons_succ, List.getElem_toArray, List.getElem_cons_succ, List.getElem_cons_zero]
    refine wpAnyH_take (i := 21) (v := ?v39) rfl (by kernel_rfl) (by kernel_rfl) (by kernel_rfl) (fun _ _ _ h => h) (Or.inl ⟨by kernel_rfl, ?y39⟩) (by assumption) ?r39
    case y39 => (intro w' hSw; (try dsimp only at hSw); go_simp; (try with_reducible rfl))
    try simp only [Act.put, List.setIfInBounds_toArray, List.set_cons_zero, List.set_cons_succ, List.getElem_toArray, List.getElem_cons_succ, List.getElem_cons_zero]
    refine wpAnyH_take (i := 22) (v := ?v40) rfl (by kernel_rfl) (by kernel_rfl) (by kernel_rfl) (fun _ _ _ h => h) (Or.inl ⟨by kernel_rfl, ?y40⟩) (by assumption) ?r40
    case y40 => (intro w' hSw; (try dsimp only at hSw); go_simp; (try with_reducible rfl))
    try simp only [Act.put, List.setIfInBounds_toArray, List.set_cons_zero, List.set_cons_succ, List.getElem_toArray, List.getElem_cons_succ, List.getElem_cons_zero]
    refine wpAnyH_ready (rs := [20]) (by kernel_rfl) (by simp) ?_
    refine AllReadyH.cons rfl (fun K hK => ?_) AllReadyH.nil
    go_simp
    go_at_call 20
    (with_reducible refine (C1.out u3 Du3).mono ?_)
    rintro e v1 ⟨rfl, cv1⟩
    have Dv1 := below_t Du3 cv1
    clear hS
    dsimp only
    refine Shut.out hK _ _ (HX.out v1 Dv1) (fun hS => ?_)
    try simp only [Act.put, List.setIfInBounds_toArray, List.set_cons_zero, List.set_cons_succ, List.getElem_toArray, List.getElem_cons_succ, List.getElem_cons_zero]
    refine wpAnyH_ready (rs := [23]) (by kernel_rfl) (by simp) ?_
    refine AllReadyH.cons rfl (fun K hK => ?_) AllReadyH.nil
    go_simp
    go_at_call 25
    (with_reducible refine (C2.out v1 Dv1).mono ?_)
    rintro e v2 ⟨rfl, cv2⟩
    have Dv2 := below_t Dv1 cv2
    clear hS
    dsimp only
    refine Shut.out hK _ _ (HX.out v2 Dv2) (fun hS => ?_)
    try simp only [Act.put, List.setIfInBounds_toArray, List.set_cons_zero, List.set_cons_succ, List.getElem_toArray, List.getElem_cons_succ, List.getElem_cons_zero]
    refine wpAnyH_take (i := 24) (v := ?v41) rfl (by kernel_rfl) (by kernel_rfl) (by kernel_rfl) (fun _ _ _ h => h) (Or.inl ⟨by kernel_rfl, ?y41⟩) (by assumption) ?r41
    case y41 => (intro w' hSw; (try dsimp only at hSw); go_simp; (try with_reducible rfl))
    try simp only [Act.put, List.setIfInBounds_toArray, List.set_cons_zero, List.set_cons_succ, List.getElem_toArray, List.getElem_cons_succ, List.getElem_cons_zero]
    refine wpAnyH_take (i := 25) (v := ?v42) rfl (by kernel_rfl) (by kernel_rfl) (by kernel_rfl) (fun _ _ _ h => h) (Or.inl ⟨by kernel_rfl, ?y42⟩) (by assumption) ?r42
    case y42 => (intro w' hSw; (try dsimp only at hSw); go_simp; (try with_reducible rfl))
    try simp only [Act.put, List.setIfInBounds_toArray, List.set_cons_zero, List.set_cons_succ, List.getElem_toArray, List.getElem_cons_succ, List.getElem_cons_zero]
    refine wpAnyH_take (i := 26) (v := ?v43) rfl (by kernel_rfl) (by kernel_rfl) (by kernel_rfl) (fun _ _ _ h => h) (Or.inl ⟨by kernel_rfl, ?y43⟩) (by assumption) ?r43
    case y43 => (intro w' hSw; (try dsimp only at hSw); go_simp; (try with_reducible rfl))
    try simp only [Act.put, List.setIfInBounds_toArray, List.set_cons_zero, List.set_cons_succ, List.getElem_toArray, List.getElem_cons_succ, List.getElem_cons_zero]
    refine wpAnyH_take (i := 27) (v := ?v44) rfl (by kernel_rfl) (by kernel_rfl) (by kernel_rfl) (fun _ _ _ h => h) (Or.inl ⟨by kernel_rfl, ?y44⟩) (by assumption) ?r44
    case y44 => (intro w' hSw; (try dsimp only at hSw); go_simp; (try with_reducible rfl))
    try simp only [Act.put, List.setIfInBounds_toArray, List.set_cons_zero, List.set_cons_succ, List.getElem_toArray, List.getElem_cons_succ, List.getElem_cons_zero]
    refine wpAnyH_take (i := 28) (v := ?v45) rfl (by kernel_rfl) (by kernel_rfl) (by kernel_rfl) (fun _ _ _ h => h) (Or.inl ⟨by kernel_rfl, ?y45⟩) (by assumption) ?r45
    case y45 => (intro w' hSw; (try dsimp only at hSw); go_simp; (try with_reducible rfl))
    try simp only [Act.put, List.setIfInBounds_toArray, List.set_cons_zero, List.set_cons_succ, List.getElem_toArray, List.getElem_cons_succ, List.getElem_cons_zero]
    refine wpAnyH_ready (rs := [29]) (by kernel_rfl) (by simp) ?_
    refine AllReadyH.cons rfl (fun K hK => ?_) AllReadyH.nil
    go_simp
    go_at_call 20
    (with_reducible refine (C3.out v2 Dv2).mono ?_)
    rintro e v3 ⟨rfl, cv3⟩
    have Dv3 := below_t Dv2 cv3
    clear hS
    dsimp only
    refine Shut.out hK _ _ (HX.out v3 Dv3) (fun hS => ?_)
    try simp only [Act.put, List.setIfInBounds_toArray, List.set_cons_zero, List.set_cons_succ, List.getElem_toArray, List.getElem_cons_succ, List.getElem_cons_zero]
    refine wpAnyH_take (i := 30) (v := ?v46) rfl (by kernel_rfl) (by kernel_rfl) (by kernel_rfl) (fun _ _ _ h => h) (Or.inl ⟨by kernel_rfl, ?y46⟩) (by assumption) ?r46
    case y46 => (intro w' hSw; (try dsimp only at hSw); go_simp; (try with_reducible rfl))
    try simp only [Act.put, List.setIfInBounds_toArray, List.set_cons_zero, List.set_cons_succ, List.getElem_toArray, List.getElem_cons_succ, List.getElem_cons_zero]
    refine wpAnyH_take (i := 31) (v := ?v47) rfl (by kernel_rfl) (by kernel_rfl) (by kernel_rfl) (fun _ _ _ h => h) (Or.inl ⟨by kernel_rfl, ?y47⟩) (by assumption) ?r47
    case y47 => (intro w' hSw; (try dsimp only at hSw); go_simp; (try with_reducible rfl))
    try simp only [Act.put, List.setIfInBounds_toArray, List.set_cons_zero, List.set_cons_succ, List.getElem_toArray, List.getElem_cons_succ, List.getElem_cons_zero]
    refine wpAnyH_done (by kernel_rfl) (NoPanic.normal ?_) _
    go_wp2_with fail
    go_ret
    exact ⟨rfl, below_t HB.out Dv3⟩

/-! ### THE ROW's STEP: WRITTEN OUT: LEAVE IT -/
set_option maxRecDepth 100000 in
theorem lifted (os : Os) (started : os.Started) (H : Type) (enc : TypeId × Value → H) :
    ReturnsInHanded {} Try.checked os 4 .any (Rows.fnInodesReadSpec.pre6 enc Try.prog Try.f4 Rows.fnInodesReadRow.domain false) (Rows.fnInodesReadSpec.post enc Try.prog Try.f4 false true false false) := by
  refine returnsInHanded_of_change (C := Try.checked) own started (by kernel_rfl) Try.func4
    (ChangeSpec.witness6 (enc := enc) (C := Try.checked) false ⟨#[], #[.slice none 0 0], []⟩ 8 (by kernel_rfl) (by kernel_rfl) (by kernel_rfl) (by kernel_rfl)) ?_
  intro W base args ds gs before hval0 hW hcnd _
  have hval : ∀ (j : Nat) t v, Try.f4.params[j]? = some t → args[j]? = some v → Value.okWide Try.prog W .any base t v := hval0
  have hW' := hW
  obtain ⟨p, q, hA0, hV, rfl, hfz, hnd⟩ := hW
  have hA : DataW.TrodAll enc Try.prog W 0 (fun _ => true) true Try.f4.params.toList args.toList ds p := hA0
  rw [Try.params4] at hA hval
  obtain ⟨v0, vs0, d0, ds0, p0, q0, hargs, rfl, rfl, h0, r0⟩ := trodAll_cons hA
  obtain ⟨rfl, rfl, rfl⟩ := trodAll_nil r0
  obtain rfl : args = #[v0] := by cases args; simp_all
  obtain ⟨rfl, rfl⟩ := trodVars_none hV
  obtain ⟨a0, len0, cap0, rfl⟩ := okWide_slice Try.underlying22 (hval 0 22 v0 rfl rfl)
  have k0 := h0
  have lt0 : ∀ x ∈ p0, x.block < W.heap.size := by obtain ⟨m, hm⟩ := k0; exact DataW.trod_lt m _ _ _ hm
  obtain ⟨z0, w0⟩ : ∃ zs, IsRow .u8 W a0 len0 cap0 zs := by
    obtain ⟨fuel, hf⟩ := h0
    rcases open_ints Try.underlying22 Try.underlying5 (by kernel_rfl) hf with ⟨hcs, _⟩ | ⟨x, l, c, zs, hcs, _, hl, hm, hz, _, hcell, hwz⟩
    · simp [Value.cells] at hcs
      obtain ⟨rfl, rfl, rfl⟩ := hcs
      exact ⟨[], .inl ⟨rfl, rfl, rfl, rfl⟩⟩
    · simp [Value.cells] at hcs
      obtain ⟨rfl, rfl, rfl⟩ := hcs
      exact ⟨zs, .inr ⟨_, rfl, hl, hm, by simpa using hz, hcell, hwz⟩⟩
  clear hA0 hval0
  refine (walk a0 len0 cap0 z0 W w0).mono fun e W' ⟨he, bel⟩ => ?_
  subst he
  exact ⟨_, rfl, _, _, _, [], _, [], hW', trodAll_mk1 (shut_bool Try.underlying4 _), (trodAll_cons_mk (Below.trod laidOut (by kernel_rfl) (of_decide_eq_true (by kernel_rfl)) k0 bel lt0) trodAll_mk0), rfl, bel.frame _, fun h => by cases h⟩

theorem over : Rows.fnInodesReadRow.holds Try.pinned (OpenSpec.ofChange Rows.fnInodesReadSpec) :=
  OpenClaim.holds_of_wide 4 Try.f4 rfl rfl rfl rfl rfl rfl rfl ⟨rfl, rfl, rfl, rfl, rfl⟩ rfl rfl rfl rfl rfl (by kernel_rfl) Try.func4 (by kernel_rfl)
    (of_decide_eq_true (by kernel_rfl)) (by unfold Func.isWrapper; first | (rw [if_pos (by decide +kernel)]; kernel_rfl) | (rw [if_neg (by decide +kernel)]; exact ⟨rfl, rfl⟩))
    (fun os started H enc _ => lifted os started H enc)

/-- ████ THE STATEMENT ████ -/
theorem proved : Rows.FnInodesReadSaid := over
#print axioms proved
end Go.Proofs.Ytnllhpeddoaehaa.fnInodesRead
