/-
  The bytes of an operation: what both PutOp functions answer.
-/
import Derived.Test.YtbnkmmgichlfbaaRows
import Derived.Test.YtbnkmmgichlfbaaBase
import Derived.Test.YtbnkmmgichlfbaaPut
import Derived.Test.YtbnkmmgichlfbaaMark
import Derived.Test.YtbnkmmgichlfbaaName
import Derived.Test.YtbnkmmgichlfbaaPairs
import Derived.Test.YtbnkmmgichlfbaaSix
import Derived.Test.YtbnkmmgichlfbaaPuts
import Derived.Test.YtbnkmmgichlfbaaMarkIno
import Derived.Test.YtbnkmmgichlfbaaKept
import Derived.Test.YtbnkmmgichlfbaaPutText
import Derived.Test.YtbnkmmgichlfbaaText
import Derived.Test.YtbnkmmgichlfbaaSameB
import Derived.Test.YtbnkmmgichlfbaaOpM
import Derived.Test.YtbnkmmgichlfbaaInoEnc
import Derived.Test.YtbnkmmgichlfbaaSpecPut
import Derived.WalkKit
import Derived.WalkSpells
import Derived.WalkLawsBesides
import Derived.Deep.QuietTactic
import Derived.BigQuiet
import Derived.OpenShut
import Derived.Laws.BitsAllLaws
import Derived.Maps.AppendAt
import Derived.Lib.SliceRun
import Derived.Lib.Strings
import Derived.Deep.RegionWith
import Derived.Laws.IdiomStrings
import Derived.Deep.Slices
import Derived.ProofKit
import Derived.ChangeOld
import Derived.Below
import Derived.Deep.DeepCutAuto
import Derived.Lib.AppendStr
import Derived.Lib.ConvBytes
import Derived.Deep.RegionHeld3
import Derived.Deep.AppendLies
import Derived.Laws.StructEq
import Derived.Laws.BytesString
namespace Go.Proofs.Ytbnkmmgichlfbaa
open Go.RowKit
/-- An operation that has bytes. -/
def opOk (D : OpD) : Bool := decide (1 ≤ D.kind) && decide (D.kind ≤ 14) && decide (0 ≤ D.vol) && decide (D.vol ≤ 1000000) && decide (0 ≤ D.off) && decide (D.off ≤ 1000000)
theorem opOk_iff (D : OpD) : opOk D = true ↔ 1 ≤ D.kind ∧ D.kind ≤ 14 ∧ 0 ≤ D.vol ∧ D.vol ≤ 1000000 ∧ 0 ≤ D.off ∧ D.off ≤ 1000000 := by
  unfold opOk
  simp only [Bool.and_eq_true, decide_eq_true_eq, and_assoc]
/-- The bytes of an operation. -/
def opEnc (D : OpD) : List Int := encs [D.kind, D.vol] ++ encTs [D.path, D.dest] ++ encs [D.off] ++ encTs [str D.data]
set_option maxHeartbeats 1600000 in
theorem opFits_any (D : OpD) (a : Option Addr) (c : Nat) (w : World) :
    Calls Try.prog 25 #[.agg (opC D a c)] w fun e w' => e = .returned (.bool (opOk D)) ∧ Below w.heap.size w w' := by
  obtain ⟨kind, vol, path, dest, off, data⟩ := D
  unfold opC opOk
  dsimp only
  have B0 : Below w.heap.size w (w.alloc (.cells #[.int .i64 kind, .int .i64 vol, .string path, .string dest, .int .i64 off, .slice a data.length c] 27)) := (Below.refl _ w).alloc (Nat.le_refl _) _
  by_cases h1 : 1 ≤ kind
  · by_cases h2 : kind ≤ 14
    · by_cases h3 : 0 ≤ vol
      · by_cases h4 : vol ≤ 1000000
        · by_cases h5 : 0 ≤ off
          · by_cases h6 : off ≤ 1000000
            · go_enter Try.func25, Try.ntmps25
              go_wp2
              go_ret
              exact ⟨by simp; omega, B0⟩
            · go_enter Try.func25, Try.ntmps25
              go_wp2
              go_ret
              exact ⟨by simp; omega, B0⟩
          · go_enter Try.func25, Try.ntmps25
            go_wp2
            go_ret
            exact ⟨by simp; omega, B0⟩
        · go_enter Try.func25, Try.ntmps25
          go_wp2
          go_ret
          exact ⟨by simp; omega, B0⟩
      · go_enter Try.func25, Try.ntmps25
        go_wp2
        go_ret
        exact ⟨by simp; omega, B0⟩
    · go_enter Try.func25, Try.ntmps25
      go_wp2
      go_ret
      exact ⟨by simp; omega, B0⟩
  · go_enter Try.func25, Try.ntmps25
    go_wp2
    go_ret
    exact ⟨by simp; omega, B0⟩
theorem encs_len2 (x y : Int) : (encs [x, y]).length ≤ 8 := by
  have i1 := enc_len x
  have i2 := enc_len y
  simp only [encs, List.flatMap_cons, List.flatMap_nil, List.length_append, List.length_nil]
  omega
theorem encTs_len2 (x y : ByteArray) : (encTs [x, y]).length ≤ x.size + y.size + 8 := by
  have i1 := encT_len x
  have i2 := encT_len y
  simp only [encTs, List.flatMap_cons, List.flatMap_nil, List.length_append, List.length_nil]
  omega
theorem encs_len1 (x : Int) : (encs [x]).length ≤ 4 := by rw [encs_one]; exact enc_len x
theorem encTs_len1 (x : ByteArray) : (encTs [x]).length ≤ x.size + 4 := by rw [encTs_one]; exact encT_len x
theorem opEnc_len (D : OpD) (h : OpSmall D) : (opEnc D).length ≤ 1048600 := by
  unfold OpSmall at h
  have h1 := encs_len2 D.kind D.vol
  have h2 := encTs_len2 D.path D.dest
  have h3 := encs_len1 D.off
  have h4 := encTs_len1 (str D.data)
  rw [str_size] at h4
  unfold opEnc
  simp only [List.length_append]
  omega
set_option maxRecDepth 100000 in
set_option maxHeartbeats 2000000 in
theorem putOpI_yes (D : OpD) (a : Option Addr) (c : Nat) (w : World) (hm : OpSmall D) (hr : OpRd w D a) (hok : opOk D = true) :
    Calls Try.prog 12 #[.agg (opC D a c)] w (PutPost w (opEnc D).length (opEnc D)) := by
  have B0 : Below w.heap.size w (w.alloc (.cells (opC D a c) 27)) := (Below.refl _ w).alloc (Nat.le_refl _) _
  have z0 : Blk _ _ _ (opC D a c) := Blk.new w 27 (opC D a c)
  have cF := fun (W : World) => opFits_any D a c W
  rw [hok] at cF
  unfold OpSmall at hm
  obtain ⟨n, hn⟩ : ∃ n, D.data.length = n := ⟨_, rfl⟩
  have HY : Hid (opEnc D = encs [D.kind, D.vol] ++ encTs [D.path, D.dest] ++ encs [D.off] ++ encTs [str D.data]) := rfl
  have hst : (str D.data).size = n := by rw [str_size]; exact hn
  unfold opC at B0 z0 cF ⊢
  rw [hn] at B0 z0 cF hm ⊢
  have HN : Hid (D.data.length = n) := hn
  clear hn hok
  go_enter Try.func12, Try.ntmps12
  go_wp2_with fail
  obtain ⟨W0, hW0⟩ : ∃ W, w.alloc (.cells #[.int .i64 D.kind, .int .i64 D.vol, .string D.path, .string D.dest, .int .i64 D.off, .slice a n c] 27) = W := ⟨_, rfl⟩
  rw [hW0] at B0 z0 ⊢
  clear hW0
  refine (cF W0).mono ?_
  rintro e w1 ⟨rfl, b1⟩
  have B1 := B0.trans (b1.mono B0.size)
  have z1 := z0.keep b1
  obtain ⟨q0, q1, q2, q3, q4, q5⟩ := z1.six
  have r1 := hr.1.keep B1
  have hb1 := B1.size
  clear B0 z0 b1 hr cF
  go_wp2_with fail
  refine (putNums_many w1.heap.size _ 0 [] [D.kind, D.vol] w1.heap.size 2 _ rfl (by omega) (by omega) (by simp) (ownV_nil _ _) (Blk.new w1 3 _)).mono ?_
  rintro e w2 ⟨v2, rfl, o2, t2, kp2⟩
  rw [List.nil_append] at o2
  have T2 : Below w1.heap.size w1 w2 := (kp_b (Nat.le_refl _) (Below.refl _ _) _).trans t2
  have z2 := z1.keep T2
  clear q0 q1 q2 q3 q4 q5 t2 kp2
  obtain ⟨q0, q1, q2, q3, q4, q5⟩ := z2.six
  have e1 := encs_len2 D.kind D.vol
  have f2 := encTs_len2 D.path D.dest
  obtain ⟨A2, hA2⟩ : ∃ A, encs [D.kind, D.vol] = A := ⟨_, rfl⟩
  rw [hA2] at o2 e1 HY
  clear hA2
  have hw2 := T2.size
  go_wp2_with fail
  refine (putTexts_many w1.heap.size v2 A2.length A2 [D.path, D.dest] w2.heap.size 2 _ rfl (by omega) (by omega) (by intro t ht; simp at ht; rcases ht with rfl | rfl <;> omega) (by simp; omega) (o2.alloc _) (Blk.new w2 9 _)).mono ?_
  rintro e w3 ⟨v3, rfl, o3, t3, kp3⟩
  have T3 : Below w1.heap.size w1 w3 := (kp_b (Nat.le_refl _) T2 _).trans t3
  have z3 := z1.keep T3
  clear q0 q1 q2 q3 q4 q5 t3 kp3
  obtain ⟨q0, q1, q2, q3, q4, q5⟩ := z3.six
  have e3 : (A2 ++ encTs [D.path, D.dest]).length ≤ D.path.size + D.dest.size + 16 := by rw [List.length_append]; omega
  obtain ⟨A3, hA3⟩ : ∃ A, A2 ++ encTs [D.path, D.dest] = A := ⟨_, rfl⟩
  rw [hA3] at o3 e3 HY
  have hw3 := T3.size
  have f3 := encs_len1 D.off
  go_wp2_with fail
  refine (putNums_many w1.heap.size v3 A3.length A3 [D.off] w3.heap.size 1 _ rfl (by omega) (by omega) (by simp; omega) (o3.alloc _) (Blk.new w3 3 _)).mono ?_
  rintro e w4 ⟨v4, rfl, o4, t4, kp4⟩
  have T4 : Below w1.heap.size w1 w4 := (kp_b (Nat.le_refl _) T3 _).trans t4
  have z4 := z1.keep T4
  clear q0 q1 q2 q3 q4 q5 t4 kp4
  obtain ⟨q0, q1, q2, q3, q4, q5⟩ := z4.six
  have e4 : (A3 ++ encs [D.off]).length ≤ D.path.size + D.dest.size + 20 := by rw [List.length_append]; omega
  obtain ⟨A4, hA4⟩ : ∃ A, A3 ++ encs [D.off] = A := ⟨_, rfl⟩
  rw [hA4] at o4 e4 HY
  have hcv := conv_any w4 a n c D.data HN.out (r1.keep T4)
  obtain ⟨S, hS⟩ : ∃ S, str D.data = S := ⟨_, rfl⟩
  rw [hS] at hcv hst HY
  have hw4 := T4.size
  clear hS hA3 hA4 o2 o3 z2 z3 T2 T3
  go_wp2_with fail
  refine (putTexts_many w1.heap.size v4 A4.length A4 [S] w4.heap.size 1 _ rfl (by omega) (by omega) (by intro t ht; simp at ht; subst ht; omega) (by simp; omega) (o4.alloc _) (Blk.new w4 9 _)).mono ?_
  rintro e w5 ⟨v5, rfl, o5, t5, kp5⟩
  have T5 : Below w1.heap.size w1 w5 := (kp_b (Nat.le_refl _) T4 _).trans t5
  rw [← HY.out] at o5
  have hne : (opEnc D).length ≠ 0 := by
    rw [HY.out, List.length_append]
    have := encPos (S.size : Int)
    rw [encTs_one]
    unfold encT
    rw [List.length_append]
    omega
  obtain ⟨g, cg, rfl, hg, hown⟩ := o5.some hne
  go_wp2
  go_ret
  exact ⟨g, cg, rfl, by omega, hown, B1.trans (T5.mono hb1)⟩
set_option maxHeartbeats 1000000 in
theorem putOpI_no (D : OpD) (a : Option Addr) (c : Nat) (w : World) (hok : opOk D = false) :
    Calls Try.prog 12 #[.agg (opC D a c)] w fun e w' => e = .returned (.slice none 0 0) ∧ Below w.heap.size w w' := by
  have B0 : Below w.heap.size w (w.alloc (.cells (opC D a c) 27)) := (Below.refl _ w).alloc (Nat.le_refl _) _
  have cF := fun (W : World) => opFits_any D a c W
  rw [hok] at cF
  unfold opC at B0 cF ⊢
  go_enter Try.func12, Try.ntmps12
  go_wp2_with fail
  refine (cF _).mono ?_
  rintro e w1 ⟨rfl, b1⟩
  go_wp2
  go_ret
  exact ⟨rfl, B0.trans (b1.mono B0.size)⟩
theorem specTextB (g c : Nat) (acc : List Int) (z : ByteArray) (W : World) (hs : acc.length ≤ 2000000) (hz : z.size ≤ 2000000) (ho : Own W g acc.length c acc) :
    Calls Try.prog 23 #[.slice (some ⟨g, 0, none⟩) acc.length c, .string z] W (PutPost W (acc ++ encT z).length (acc ++ encT z)) := by
  have h := specPutText_any ⟨g, 0, none⟩ acc.length c acc z W rfl (by omega) (by omega) ho.rd
  rw [List.append_assoc, show enc (z.size : Int) ++ strZ z = encT z from rfl, show acc.length + (enc (z.size : Int)).length + z.size = (acc ++ encT z).length by rw [List.length_append, encT, List.length_append, strZ_len]; omega] at h
  exact h
theorem specNumB (g c : Nat) (acc : List Int) (x : Int) (W : World) (hs : acc.length ≤ 2000000) (ho : Own W g acc.length c acc) :
    Calls Try.prog 24 #[.slice (some ⟨g, 0, none⟩) acc.length c, .int .i64 x] W (PutPost W (acc ++ enc x).length (acc ++ enc x)) := by
  have h := specPutNum_any ⟨g, 0, none⟩ acc.length c acc x W rfl (by omega) ho.rd
  rw [← List.length_append] at h
  exact h
set_option maxRecDepth 100000 in
set_option maxHeartbeats 8000000 in
theorem putOpS_yes (D : OpD) (a : Option Addr) (c : Nat) (w : World) (hm : OpSmall D) (hr : OpRd w D a) (hok : opOk D = true) :
    Calls Try.prog 11 #[.agg (opC D a c)] w (PutPost w (opEnc D).length (opEnc D)) := by
  obtain ⟨k1, k2, k3, k4, k5, k6⟩ := (opOk_iff D).1 hok
  have B0 : Below w.heap.size w (w.alloc (.cells (opC D a c) 27)) := (Below.refl _ w).alloc (Nat.le_refl _) _
  have z0 : Blk _ _ _ (opC D a c) := Blk.new w 27 (opC D a c)
  unfold OpSmall at hm
  obtain ⟨n, hn⟩ : ∃ n, D.data.length = n := ⟨_, rfl⟩
  have hst : (str D.data).size = n := by rw [str_size]; exact hn
  unfold opC at B0 z0 ⊢
  rw [hn] at B0 z0 hm ⊢
  have HN : Hid (D.data.length = n) := hn
  have i1 : ∀ W, Calls Try.prog 22 #[.int .i64 D.kind, .int .i64 1, .int .i64 14] W fun e w' => e = .returned (.bool true) ∧ w' = W := fun W => (l1In_any D.kind 1 14 W).mono fun _ _ ⟨h1, h2⟩ => ⟨by rw [h1]; simp; omega, h2⟩
  have i2 : ∀ W, Calls Try.prog 22 #[.int .i64 D.vol, .int .i64 0, .int .i64 1000000] W fun e w' => e = .returned (.bool true) ∧ w' = W := fun W => (l1In_any D.vol 0 1000000 W).mono fun _ _ ⟨h1, h2⟩ => ⟨by rw [h1]; simp; omega, h2⟩
  have i3 : ∀ W, Calls Try.prog 22 #[.int .i64 D.off, .int .i64 0, .int .i64 1000000] W fun e w' => e = .returned (.bool true) ∧ w' = W := fun W => (l1In_any D.off 0 1000000 W).mono fun _ _ ⟨h1, h2⟩ => ⟨by rw [h1]; simp; omega, h2⟩
  have L1 := enc_len D.kind
  have L2 := enc_len D.vol
  have L3 := encT_len D.path
  have L4 := encT_len D.dest
  have L5 := enc_len D.off
  have n1 : ∀ (W : World) (ad : Addr), Calls Try.prog 24 #[.slice (some ad) 0 0, .int .i64 D.kind] W (PutPost W (enc D.kind).length (enc D.kind)) := fun W ad => specNum0 ad D.kind W
  have n2 : ∀ (W : World) (g c : Nat), Own W g (enc D.kind).length c (enc D.kind) → Calls Try.prog 24 #[.slice (some ⟨g, 0, none⟩) (enc D.kind).length c, .int .i64 D.vol] W (PutPost W (enc D.kind ++ enc D.vol).length (enc D.kind ++ enc D.vol)) := fun W g c h => specNumB g c _ D.vol W (by omega) h
  have n3 : ∀ (W : World) (g c : Nat), Own W g (enc D.kind ++ enc D.vol).length c (enc D.kind ++ enc D.vol) → Calls Try.prog 23 #[.slice (some ⟨g, 0, none⟩) (enc D.kind ++ enc D.vol).length c, .string D.path] W (PutPost W (enc D.kind ++ enc D.vol ++ encT D.path).length (enc D.kind ++ enc D.vol ++ encT D.path)) := fun W g c h => specTextB g c _ D.path W (by rw [List.length_append]; omega) (by omega) h
  have n4 : ∀ (W : World) (g c : Nat), Own W g (enc D.kind ++ enc D.vol ++ encT D.path).length c (enc D.kind ++ enc D.vol ++ encT D.path) → Calls Try.prog 23 #[.slice (some ⟨g, 0, none⟩) (enc D.kind ++ enc D.vol ++ encT D.path).length c, .string D.dest] W (PutPost W (enc D.kind ++ enc D.vol ++ encT D.path ++ encT D.dest).length (enc D.kind ++ enc D.vol ++ encT D.path ++ encT D.dest)) := fun W g c h => specTextB g c _ D.dest W (by rw [List.length_append, List.length_append]; omega) (by omega) h
  have HY : Hid (opEnc D = enc D.kind ++ enc D.vol ++ encT D.path ++ encT D.dest ++ enc D.off ++ encT (str D.data)) := by show _ = _; simp [opEnc, encs, encTs]
  have f1 : (enc D.kind ++ enc D.vol ++ encT D.path ++ encT D.dest).length ≤ D.path.size + D.dest.size + 16 := by rw [List.length_append, List.length_append, List.length_append]; omega
  obtain ⟨Y1, hY1⟩ : ∃ Y, enc D.kind = Y := ⟨_, rfl⟩
  rw [hY1] at n1 n2 n3 n4 HY f1
  obtain ⟨Y2, hY2⟩ : ∃ Y, Y1 ++ enc D.vol = Y := ⟨_, rfl⟩
  rw [hY2] at n2 n3 n4 HY f1
  obtain ⟨Y3, hY3⟩ : ∃ Y, Y2 ++ encT D.path = Y := ⟨_, rfl⟩
  rw [hY3] at n3 n4 HY f1
  obtain ⟨Y4, hY4⟩ : ∃ Y, Y3 ++ encT D.dest = Y := ⟨_, rfl⟩
  rw [hY4] at n4 HY f1
  obtain ⟨Y6, hY6⟩ : ∃ Y, opEnc D = Y := ⟨_, rfl⟩
  rw [hY6] at HY ⊢
  clear hY1 hY2 hY3 hY4 hY6 L1 L2 L3 L4 hn hok k1 k2 k3 k4 k5 k6
  go_enter Try.func11, Try.ntmps11
  go_wp2_with fail
  obtain ⟨w1, hW0⟩ : ∃ W, w.alloc (.cells #[.int .i64 D.kind, .int .i64 D.vol, .string D.path, .string D.dest, .int .i64 D.off, .slice a n c] 27) = W := ⟨_, rfl⟩
  rw [hW0] at B0 z0 ⊢
  clear hW0
  obtain ⟨q0, q1, q2, q3, q4, q5⟩ := z0.six
  refine (i1 w1).mono ?_
  rintro e w1' ⟨rfl, hw⟩
  obtain rfl := hw.symm
  go_wp2_with fail
  refine (i2 w1).mono ?_
  rintro e w1' ⟨rfl, hw⟩
  obtain rfl := hw.symm
  go_wp2_with fail
  refine (i3 w1).mono ?_
  rintro e w1' ⟨rfl, hw⟩
  obtain rfl := hw.symm
  clear i1 i2 i3
  have r1 := hr.1.keep B0
  have hb1 := B0.size
  have bX : Below w1.heap.size w1 (w1.alloc (.cells #[] 5)).drew := ((Below.refl _ w1).alloc (Nat.le_refl _) _).drew
  have zX := z0.keep bX
  have bX' : Below w1.heap.size w1 (w1.alloc (.cells #[] 5)) := (Below.refl _ w1).alloc (Nat.le_refl _) _
  obtain ⟨j0, j1, j2, j3, j4, j5⟩ := (z0.keep bX').six
  go_upto_region 3 with fail
  go_cut [3] (fun s wx => ∃ g c, s = .slice (some ⟨g, 0, none⟩) Y4.length c ∧ w1.heap.size ≤ g ∧ Own wx g Y4.length c Y4 ∧ Below w1.heap.size w1 wx)
  case first =>
    go_region_held3 (fun W : World => W.cell? ⟨w.heap.size, 0, none⟩ = some (.int .i64 D.kind) ∧ W.cell? ⟨w.heap.size, 1, none⟩ = some (.int .i64 D.vol) ∧ W.cell? ⟨w.heap.size, 2, none⟩ = some (.string D.path) ∧ W.cell? ⟨w.heap.size, 3, none⟩ = some (.string D.dest)) (go_keep) (first
      | (go_at_call 24; (with_reducible refine (n1 _ _).mono ?_); rintro e wA ⟨gA, cA, rfl, hgA, oA, bA⟩; have zA := zX.keep bA; obtain ⟨s0, s1, s2, s3, s4, s5⟩ := zA.six)
      | (go_at_call 24; (with_reducible refine (n2 wA gA cA oA).mono ?_); rintro e wB ⟨gB, cB, rfl, hgB, oB, bB⟩; have zB := zA.keep bB; obtain ⟨t0, t1, t2, t3, t4, t5⟩ := zB.six)
      | (go_at_call 23; (with_reducible refine (n3 wB gB cB oB).mono ?_); rintro e wC ⟨gC, cC, rfl, hgC, oC, bC⟩; have zC := zB.keep bC; obtain ⟨r0, r1, r2, r3, r4, r5⟩ := zC.six)
      | (go_at_call 23; (with_reducible refine (n4 wC gC cC oC).mono ?_); rintro e wD ⟨gD, cD, rfl, hgD, oD, bD⟩; obtain ⟨l0, l1, l2, l3, l4, l5⟩ := (zC.keep bD).six))
    all_goals (go_wp2_with fail; go_meet; have t1 := bX.trans (bA.mono bX.size); have t2 := t1.trans (bB.mono t1.size); have t3 := t2.trans (bC.mono t2.size); exact ⟨gD, cD, rfl, Nat.le_trans t3.size hgD, oD, t3.trans (bD.mono t3.size)⟩)
  case rest =>
  obtain ⟨g, cg, rfl, hg, o2, T2⟩ := hcut
  obtain ⟨w2, hwc⟩ : ∃ W, W = wc := ⟨_, rfl⟩
  subst hwc
  clear n1 n2 n3 n4 q0 q1 q2 q3 q4 q5 zX bX bX' j0 j1 j2 j3 j4 j5
  have z2 := z0.keep T2
  obtain ⟨q0, q1, q2, q3, q4, q5⟩ := z2.six
  obtain ⟨S, hS⟩ : ∃ S, str D.data = S := ⟨_, rfl⟩
  have hcv0 : ∀ W : World, Below w1.heap.size w1 W → (convert 22 9 (.slice a n c)).run Try.prog W = .ok (.string S) W := fun W h => by rw [← hS]; exact conv_any W a n c D.data HN.out (r1.keep h)
  have hcv := hcv0 w2 T2
  have hcvd := hcv0 w2.drew T2.drew
  rw [hS] at hst HY
  have HCV : Hid _ := hcv0
  clear hS hcv0
  have m1 : ∀ (W : World), Own W g Y4.length cg Y4 → Calls Try.prog 24 #[.slice (some ⟨g, 0, none⟩) Y4.length cg, .int .i64 D.off] W (PutPost W (Y4 ++ enc D.off).length (Y4 ++ enc D.off)) := fun W h => specNumB g cg _ D.off W (by omega) h
  have m2 : ∀ (W : World) (g c : Nat), Own W g (Y4 ++ enc D.off).length c (Y4 ++ enc D.off) → Calls Try.prog 23 #[.slice (some ⟨g, 0, none⟩) (Y4 ++ enc D.off).length c, .string S] W (PutPost W (Y4 ++ enc D.off ++ encT S).length (Y4 ++ enc D.off ++ encT S)) := fun W g c h => specTextB g c _ S W (by rw [List.length_append]; omega) (by omega) h
  rw [← HY.out] at m2
  obtain ⟨Y5, hY5⟩ : ∃ Y, Y4 ++ enc D.off = Y := ⟨_, rfl⟩
  rw [hY5] at m1 m2
  clear hY5 HY
  have o2d : Own w2.drew g Y4.length cg Y4 := o2
  have z2d := z2.keep (Below.refl w2.heap.size w2).drew
  have hw2 := T2.size
  go_upto_region 4 with fail
  go_cut [2] (fun s wx => ∃ g c, s = .slice (some ⟨g, 0, none⟩) Y6.length c ∧ w1.heap.size ≤ g ∧ Own wx g Y6.length c Y6 ∧ Below w1.heap.size w1 wx)
  case first =>
    go_region_held3 (fun W : World => W.cell? ⟨w.heap.size, 4, none⟩ = some (.int .i64 D.off) ∧ W.cell? ⟨w.heap.size, 5, none⟩ = some (.slice a n c) ∧ (convert 22 9 (.slice a n c)).run Try.prog W = .ok (.string S) W) (go_keep) (first
      | (go_at_call 24; (with_reducible refine (m1 w2.drew o2d).mono ?_); rintro e wA ⟨gA, cA, rfl, hgA, oA, bA⟩; have zA := z2d.keep bA; have tA := T2.drew.trans (bA.mono hw2); have cvA := HCV.out wA tA; obtain ⟨s0, s1, s2, s3, s4, s5⟩ := zA.six)
      | (go_at_call 23; (with_reducible refine (m2 wA gA cA oA).mono ?_); rintro e wB ⟨gB, cB, rfl, hgB, oB, bB⟩; obtain ⟨r0, r1, r2, r3, r4, r5⟩ := (zA.keep bB).six; have cvB := HCV.out wB (tA.trans (bB.mono tA.size))))
    all_goals (go_wp2_with fail; go_meet; have t1 := T2.drew.trans (bA.mono hw2); exact ⟨gB, cB, rfl, Nat.le_trans t1.size hgB, oB, t1.trans (bB.mono t1.size)⟩)
  case rest =>
  obtain ⟨g3, c3, rfl, hg3, o3, T3⟩ := hcut
  obtain ⟨w3, hwc⟩ : ∃ W, W = wc := ⟨_, rfl⟩
  subst hwc
  go_wp2
  go_ret
  exact ⟨g3, c3, rfl, by omega, o3, B0.trans (T3.mono hb1)⟩
set_option maxHeartbeats 1000000 in
theorem putOpS_no (D : OpD) (a : Option Addr) (c : Nat) (w : World) (hok : opOk D = false) :
    Calls Try.prog 11 #[.agg (opC D a c)] w fun e w' => ∃ g : Nat, e = .returned (.slice (some ⟨g, 0, none⟩) 0 0) ∧ Below w.heap.size w w' := by
  have B0 : Below w.heap.size w (w.alloc (.cells (opC D a c) 27)) := (Below.refl _ w).alloc (Nat.le_refl _) _
  have hno : ¬ (1 ≤ D.kind ∧ D.kind ≤ 14 ∧ 0 ≤ D.vol ∧ D.vol ≤ 1000000 ∧ 0 ≤ D.off ∧ D.off ≤ 1000000) := fun h => by rw [(opOk_iff D).2 h] at hok; simp at hok
  unfold opC at B0 ⊢
  have i1 := fun W => l1In_any D.kind 1 14 W
  have i2 := fun W => l1In_any D.vol 0 1000000 W
  have i3 := fun W => l1In_any D.off 0 1000000 W
  by_cases h1 : 1 ≤ D.kind ∧ D.kind ≤ 14
  · rw [show (decide (1 ≤ D.kind) && decide (D.kind ≤ 14)) = true by simp; omega] at i1
    by_cases h2 : 0 ≤ D.vol ∧ D.vol ≤ 1000000
    · rw [show (decide (0 ≤ D.vol) && decide (D.vol ≤ 1000000)) = true by simp; omega] at i2
      rw [show (decide (0 ≤ D.off) && decide (D.off ≤ 1000000)) = false by simp; omega] at i3
      go_enter Try.func11, Try.ntmps11
      go_wp2_with fail
      refine (i1 _).mono ?_
      rintro e w1 ⟨rfl, hw⟩
      subst hw
      go_wp2_with fail
      refine (i2 _).mono ?_
      rintro e w1 ⟨rfl, hw⟩
      subst hw
      go_wp2_with fail
      refine (i3 _).mono ?_
      rintro e w1 ⟨rfl, hw⟩
      subst hw
      go_wp2
      go_ret
      exact ⟨_, rfl, kp_b (Nat.le_refl _) B0 _⟩
    · rw [show (decide (0 ≤ D.vol) && decide (D.vol ≤ 1000000)) = false by simp; omega] at i2
      go_enter Try.func11, Try.ntmps11
      go_wp2_with fail
      refine (i1 _).mono ?_
      rintro e w1 ⟨rfl, hw⟩
      subst hw
      go_wp2_with fail
      refine (i2 _).mono ?_
      rintro e w1 ⟨rfl, hw⟩
      subst hw
      go_wp2
      go_ret
      exact ⟨_, rfl, kp_b (Nat.le_refl _) B0 _⟩
  · rw [show (decide (1 ≤ D.kind) && decide (D.kind ≤ 14)) = false by simp; omega] at i1
    go_enter Try.func11, Try.ntmps11
    go_wp2_with fail
    refine (i1 _).mono ?_
    rintro e w1 ⟨rfl, hw⟩
    subst hw
    go_wp2
    go_ret
    exact ⟨_, rfl, kp_b (Nat.le_refl _) B0 _⟩
end Go.Proofs.Ytbnkmmgichlfbaa
