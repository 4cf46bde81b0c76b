/-
  Joined: TbP, ChOpen.
-/
import Derived.Test.YtmkcadnpleijdaaJ11U
import Derived.Test.YtmkcadnpleijdaaJ14U
import Derived.Test.YtmkcadnpleijdaaJ15U
namespace Go.Proofs.Ytmkcadnpleijdaa
section
open Go.RowKit
/-- A flag as a number. -/
def roN (b : Bool) : Int := if b = true then 1 else 0
/-- The bytes of a row. -/
def rwEnc (r : RwD) : List Int := encs [r.id] ++ encTs [r.name] ++ encs [roN r.ro, r.lim, r.mp]
/-- The bytes of the first k rows of a table. -/
def tbT (nx : Int) (n : Nat) (ps : List RwD) (k : Nat) : List Int := encs [nx, (n : Int)] ++ (ps.take k).flatMap rwEnc
/-- The bytes of a table. -/
def tbEnc (nx : Int) (ps : List RwD) : List Int := encs [nx, (ps.length : Int)] ++ ps.flatMap rwEnc
theorem tbT_zero (nx : Int) (n : Nat) (ps : List RwD) : tbT nx n ps 0 = encs [nx, (n : Int)] := by simp [tbT]
theorem tbT_all (nx : Int) (n : Nat) (ps : List RwD) (h : ps.length = n) : tbT nx n ps n = tbEnc nx ps := by subst h; simp [tbT, tbEnc]
theorem tbT_succ {nx : Int} {n : Nat} {ps : List RwD} {k : Nat} {r : RwD} (h : ps[k]? = some r) : tbT nx n ps (k + 1) = tbT nx n ps k ++ rwEnc r := by
  unfold tbT
  rw [List.take_add_one, h]
  simp
theorem encs_len3 (x y z : Int) : (encs [x, y, z]).length ≤ 12 := by
  have i1 := enc_len x
  have i2 := enc_len y
  have i3 := enc_len z
  simp only [encs, List.flatMap_cons, List.flatMap_nil, List.length_append, List.length_nil]
  omega
theorem rwEnc_len {r : RwD} (h : r.name.size ≤ 14) : (rwEnc r).length ≤ 34 := by
  have h1 := encs_len1 r.id
  have h2 := encTs_len1 r.name
  have h3 := encs_len3 (roN r.ro) r.lim r.mp
  unfold rwEnc
  rw [List.length_append, List.length_append]
  omega
theorem tbT_len (nx : Int) (n : Nat) (ps : List RwD) (k : Nat) (hn : ∀ r ∈ ps, r.name.size ≤ 14) : (tbT nx n ps k).length ≤ 8 + 34 * k := by
  induction k with
  | zero => rw [tbT_zero]; have := encs_len2 nx (n : Int); omega
  | succ k ih =>
    cases h : ps[k]? with
    | none =>
      have : tbT nx n ps (k + 1) = tbT nx n ps k := by unfold tbT; rw [List.take_add_one, h]; simp
      rw [this]; omega
    | some r =>
      rw [tbT_succ h, List.length_append]
      have := rwEnc_len (hn r (List.mem_of_getElem? h))
      omega
theorem tbB_self {nx : Int} {ps : List RwD} (h : tbB nx ps = true) : ps.length ≤ 6 ∧ 1 ≤ nx ∧ nx ≤ 99 ∧ (∀ (k : Nat) (r : RwD), ps[k]? = some r → rwGood nx ps r k = true) ∧ ascN (idsW ps) = true := by
  unfold tbB at h
  simp only [Bool.and_eq_true, decide_eq_true_eq, List.all_eq_true, List.mem_range] at h
  refine ⟨h.1.1, h.1.2.1, h.1.2.2, fun k r hk => ?_, h.2.2⟩
  have := h.2.1 k (List.getElem?_eq_some_iff.1 hk).1
  rw [getW_at hk] at this
  exact this
theorem rwOk_self {nx : Int} {r : RwD} (h : rwOk nx r = true) : 1 ≤ r.id ∧ r.id < nx ∧ nameOk r.name.data.toList = true ∧ 32 ≤ r.lim ∧ r.lim ≤ 4000 ∧ 0 ≤ r.mp ∧ r.mp ≤ 191 := by
  unfold rwOk at h
  simp only [Bool.and_eq_true, decide_eq_true_eq] at h
  obtain ⟨⟨⟨⟨⟨h1, h2⟩, h3⟩, h4, h5⟩, h6⟩, h7⟩ := h
  exact ⟨h1, h2, h3, h4, h5, h6, h7⟩
theorem tb_names {nx : Int} {ps : List RwD} (h : tbB nx ps = true) : ∀ r ∈ ps, r.name.size ≤ 14 := by
  intro r hr
  obtain ⟨k, hk⟩ := List.getElem?_of_mem hr
  have := (tbB_self h).2.2.2.1 k r hk
  unfold rwGood at this
  rw [Bool.and_eq_true] at this
  exact name14 (rwOk_self this.1).2.2.1
theorem tbEnc_ne (nx : Int) (ps : List RwD) : (tbEnc nx ps).length ≠ 0 := by
  unfold tbEnc
  rw [List.length_append]
  have := encPos nx
  simp only [encs, List.flatMap_cons, List.length_append]
  omega
set_option maxHeartbeats 800000 in
theorem flagI (b : Bool) (w : World) : Calls Try.prog 30 #[.bool b] w fun e w' => e = .returned (.int .i64 (roN b)) ∧ w' = w := by
  cases b with
  | true =>
    go_enter Try.func30, Try.ntmps30
    go_wp2
    go_ret
    exact ⟨rfl, rfl⟩
  | false =>
    go_enter Try.func30, Try.ntmps30
    go_wp2
    go_ret
    exact ⟨rfl, rfl⟩
/-- What is known while a row is put: the bytes so far, the row's box. -/
structure PB (B : Nat) (w1 V W : World) (u : Value) (zs : List Int) (X : Nat) (xs : Array Value) : Prop where
  own : OwnV B W u zs.length zs
  row : Blk W X 35 xs
  below : Below B w1 W
  kp : Kp V W
theorem PB.alloc {B : Nat} {w1 V W : World} {u : Value} {zs : List Int} {X : Nat} {xs : Array Value} (hB : B ≤ w1.heap.size) (h : PB B w1 V W u zs X xs) (o : Obj) : PB B w1 V (W.alloc o) u zs X xs := ⟨h.own.alloc o, h.row.alloc o, kp_b hB h.below o, h.kp.alloc o⟩
theorem PB.drew {B : Nat} {w1 V W : World} {u : Value} {zs : List Int} {X : Nat} {xs : Array Value} (h : PB B w1 V W u zs X xs) : PB B w1 V W.drew u zs X xs := ⟨h.own, h.row, h.below.drew, fun ad t vs ht hb => h.kp ad t vs ht hb⟩
set_option maxRecDepth 100000 in
set_option maxHeartbeats 8000000 in
theorem putTableI_yes (nx : Int) (a : Option Addr) (n cap : Nat) (ps : List RwD) (w : World) (hf : WR w a n ps) (hok : tbB nx ps = true) :
    Calls Try.prog 9 #[.agg #[.int .i64 nx, .slice a n cap]] w (PutPost w (tbEnc nx ps).length (tbEnc nx ps)) := by
  have hn6 : n ≤ 6 := by have := (tbB_self hok).1; rw [hf.len] at this; exact this
  have B0 : Below w.heap.size w (w.alloc (.cells #[.int .i64 nx, .slice a n cap] 26)) := (Below.refl _ w).alloc (Nat.le_refl _) _
  have z0 := Blk.new w 26 #[.int .i64 nx, .slice a n cap]
  have cF := tableOkI nx a n cap ps _ (hf.keep B0)
  rw [hok] at cF
  have HNM : Hid _ := tb_names hok
  have HPR : Hid (WR w a n ps) := hf
  have HE : Hid (tbT nx n ps n = tbEnc nx ps) := tbT_all nx n ps hf.len
  have HNE := tbEnc_ne nx ps
  generalize tbEnc nx ps = Y at HE HNE
  clear hf hok
  go_enter Try.func9, Try.ntmps9
  go_wp2_with fail
  refine cF.mono ?_
  rintro e w1 ⟨rfl, b1⟩
  have B1 := B0.trans (b1.mono B0.size)
  have z1 := z0.keep b1
  have q0 := z1.cell 0
  have q1 := z1.cell 1
  simp at q0 q1
  have hb1 := B1.size
  clear B0 z0 b1 cF
  go_wp2_with fail
  refine (putNums_many w1.heap.size _ 0 [] [nx, (n : Int)] w1.heap.size 2 _ rfl (by omega) (by omega) (by simp) (ownV_nil _ _) (Blk.new w1 3 _)).mono ?_
  rintro e w2 ⟨v2, rfl, o2, t2, kp2⟩
  rw [List.nil_append] at o2
  have T2 : Below w1.heap.size w1 w2 := (kp_b (Nat.le_refl _) (Below.refl _ _) _).trans t2
  have z2 := z1.keep T2
  clear q0 q1 t2 kp2
  have q1 := z2.cell 1
  simp at q1
  have HT0 : Hid (encs [nx, (n : Int)] = tbT nx n ps 0) := (tbT_zero nx n ps).symm
  have hL0 := encs_len2 nx (n : Int)
  generalize encs [nx, (n : Int)] = A2 at o2 HT0 hL0
  have HB1 : Hid (Below w.heap.size w w1) := B1
  have HT2 : Hid (Below w1.heap.size w1 w2) := T2
  clear B1 T2 z1 z2
  go_wp2
  go_loopw [3, 19] (fun u i wr => ∃ (k : Nat) (acc : List Int), k ≤ n ∧ i = .int .i64 k ∧ Hid (OwnV w1.heap.size wr u acc.length acc) ∧ Hid (acc = tbT nx n ps k) ∧ acc.length ≤ 8 + 34 * k ∧ Hid (Below w1.heap.size w1 wr)) (fun _ i _ => n - (intOf i).toNat)
  case atStart => exact ⟨0, A2, Nat.zero_le _, rfl, o2, HT0, by omega, HT2⟩
  case round =>
    obtain ⟨k, acc, hk, rfl, ho, hacc, hlen, hB⟩ := hrel
    clear o2 HT0 hL0 HT2 q1
    by_cases hkn : k < n
    · have hki : (k : Int) < (n : Int) := by omega
      obtain ⟨b, off, r, rfl, hlt, hrk, x6⟩ := (HPR.out.keep (HB1.out.trans (hB.out.mono hb1))).some hkn
      have hnx : Hid (acc ++ encs [r.id] ++ encTs [r.name] ++ encs [roN r.ro, r.lim, r.mp] = tbT nx n ps (k + 1)) := by show _ = _; rw [tbT_succ hrk, hacc.out]; simp [rwEnc]
      have hnm := HNM.out r (List.mem_of_getElem? hrk)
      obtain ⟨c0, c1, c2, c3, c4⟩ := x6
      obtain ⟨x0, x1, x2, x3, x4⟩ := r
      dsimp only at c0 c1 c2 c3 c4 hnx hnm
      have hL1 := encs_len1 x0
      have hL2 := encTs_len1 x1
      have hL3 := encs_len3 (roN x2) x3 x4
      have l1 : (acc ++ encs [x0]).length ≤ acc.length + 4 := by rw [List.length_append]; omega
      have l2 : (acc ++ encs [x0] ++ encTs [x1]).length ≤ acc.length + 22 := by rw [List.length_append, List.length_append]; omega
      have l3 : (acc ++ encs [x0] ++ encTs [x1] ++ encs [roN x2, x3, x4]).length ≤ acc.length + 34 := by rw [List.length_append, List.length_append, List.length_append]; omega
      have hsz := hB.out.size
      have hP0 : PB w1.heap.size w1 (wr.alloc (.cells #[.int .i64 x0, .string x1, .bool x2, .int .i64 x3, .int .i64 x4] 35)) (wr.alloc (.cells #[.int .i64 x0, .string x1, .bool x2, .int .i64 x3, .int .i64 x4] 35)) u3 acc wr.heap.size #[.int .i64 x0, .string x1, .bool x2, .int .i64 x3, .int .i64 x4] := ⟨ho.out.alloc _, Blk.new wr _ _, kp_b (Nat.le_refl _) hB.out _, Kp.refl _⟩
      clear hrk hacc ho hB hL1 hL2 hL3
      have cN := fun (W : World) (V : World) (v : Value) (X ad : Nat) (hP : PB w1.heap.size w1 V W v acc X #[.int .i64 x0, .string x1, .bool x2, .int .i64 x3, .int .i64 x4]) (h2 : Blk W ad 3 #[.int .i64 x0]) => (putNums_many w1.heap.size v acc.length acc [x0] ad 1 W rfl (by omega) (by omega) hP.below.size hP.own h2).mono (fun e w' ⟨v', h1, h3, h4, h5⟩ => (⟨v', h1, ⟨h3, h5 _ _ _ (by decide) hP.row, hP.below.trans h4, hP.kp.trans h5⟩, h5⟩ : ∃ v', e = Ending.returned v' ∧ PB w1.heap.size w1 V w' v' (acc ++ encs [x0]) X #[.int .i64 x0, .string x1, .bool x2, .int .i64 x3, .int .i64 x4] ∧ Kp W w'))
      have cT := fun (W : World) (V : World) (v : Value) (X ad : Nat) (hP : PB w1.heap.size w1 V W v (acc ++ encs [x0]) X #[.int .i64 x0, .string x1, .bool x2, .int .i64 x3, .int .i64 x4]) (h2 : Blk W ad 9 #[.string x1]) => (putTexts_many w1.heap.size v (acc ++ encs [x0]).length (acc ++ encs [x0]) [x1] ad 1 W rfl (by omega) (by omega) (by intro t ht; simp at ht; subst ht; omega) hP.below.size hP.own h2).mono (fun e w' ⟨v', h1, h3, h4, h5⟩ => (⟨v', h1, ⟨h3, h5 _ _ _ (by decide) hP.row, hP.below.trans h4, hP.kp.trans h5⟩⟩ : ∃ v', e = Ending.returned v' ∧ PB w1.heap.size w1 V w' v' (acc ++ encs [x0] ++ encTs [x1]) X #[.int .i64 x0, .string x1, .bool x2, .int .i64 x3, .int .i64 x4]))
      have cM := fun (W : World) (V : World) (v : Value) (X ad : Nat) (hP : PB w1.heap.size w1 V W v (acc ++ encs [x0] ++ encTs [x1]) X #[.int .i64 x0, .string x1, .bool x2, .int .i64 x3, .int .i64 x4]) (h2 : Blk W ad 3 #[.int .i64 (roN x2), .int .i64 x3, .int .i64 x4]) => (putNums_many w1.heap.size v (acc ++ encs [x0] ++ encTs [x1]).length (acc ++ encs [x0] ++ encTs [x1]) [roN x2, x3, x4] ad 3 W rfl (by omega) (by omega) hP.below.size hP.own h2).mono (fun e w' ⟨v', h1, h3, h4, h5⟩ => (⟨v', h1, ⟨h3, h5 _ _ _ (by decide) hP.row, hP.below.trans h4, hP.kp.trans h5⟩⟩ : ∃ v', e = Ending.returned v' ∧ PB w1.heap.size w1 V w' v' (acc ++ encs [x0] ++ encTs [x1] ++ encs [roN x2, x3, x4]) X #[.int .i64 x0, .string x1, .bool x2, .int .i64 x3, .int .i64 x4]))
      have cG := fun W : World => flagI x2 W
      generalize roN x2 = y2 at cM cG hnx l3
      generalize acc ++ encs [x0] ++ encTs [x1] ++ encs [y2, x3, x4] = A4 at cM hnx l3
      generalize acc ++ encs [x0] ++ encTs [x1] = A3 at cT cM l2
      generalize acc ++ encs [x0] = A1 at cN cT l1
      go_upto_region 7 with fail
      obtain ⟨V, hV⟩ : ∃ V, wr.alloc (.cells #[.int .i64 x0, .string x1, .bool x2, .int .i64 x3, .int .i64 x4] 35) = V := ⟨_, rfl⟩
      obtain ⟨X, hX⟩ : ∃ X, wr.heap.size = X := ⟨_, rfl⟩
      rw [hV, hX] at hP0 ⊢
      rw [hX] at hsz
      clear hV hX c0 c1 c2 c3 c4
      have HP0 : Hid (PB w1.heap.size w1 V V u3 acc X #[.int .i64 x0, .string x1, .bool x2, .int .i64 x3, .int .i64 x4]) := hP0
      have c0 : V.drew.cell? ⟨X, 0, none⟩ = some (.int .i64 x0) := hP0.row.cell 0
      have c1 : V.drew.cell? ⟨X, 1, none⟩ = some (.string x1) := hP0.row.cell 1
      clear hP0
      go_cut [3] (fun u wx => ∃ v, u = v ∧ PB w1.heap.size w1 V wx v A3 X #[.int .i64 x0, .string x1, .bool x2, .int .i64 x3, .int .i64 x4])
      case first =>
        go_region_held3 (fun W : World => W.cell? ⟨X, 0, none⟩ = some (.int .i64 x0) ∧ W.cell? ⟨X, 1, none⟩ = some (.string x1)) (first | exact ⟨(HP0.out.row.alloc _).cell 0, (HP0.out.row.alloc _).cell 1⟩ | exact ⟨((HP0.out.row.alloc _).alloc _).cell 0, ((HP0.out.row.alloc _).alloc _).cell 1⟩ | exact ⟨(P5.row.alloc _).cell 0, (P5.row.alloc _).cell 1⟩ | (go_keep; done)) (first
          | (go_at_call 28; refine (cN _ V _ X _ (by first | exact (HP0.out.alloc (Nat.le_refl _) _).drew | exact ((HP0.out.alloc (Nat.le_refl _) _).alloc (Nat.le_refl _) _).drew) (by first | exact (Blk.newAt (by simp)).drew | exact ((Blk.newAt (by simp)).alloc _).drew)).mono ?_; rintro e w5 ⟨v5, rfl, P5, kp5⟩; obtain ⟨s0, s1⟩ : w5.cell? ⟨X, 0, none⟩ = some (.int .i64 x0) ∧ w5.cell? ⟨X, 1, none⟩ = some (.string x1) := ⟨P5.row.cell 0, P5.row.cell 1⟩)
          | (go_at_call 29; refine (cT _ V v5 X _ (by first | exact P5 | exact P5.alloc (Nat.le_refl _) _) (by first | exact Blk.newAt (by simp) | exact kp5 _ _ _ (by decide) (Blk.newAt (by simp)).drew | exact kp5 _ _ _ (by decide) ((Blk.newAt (by simp)).alloc _).drew)).mono ?_; rintro e w6 ⟨v6, rfl, P6⟩; obtain ⟨t0, t1⟩ : w6.cell? ⟨X, 0, none⟩ = some (.int .i64 x0) ∧ w6.cell? ⟨X, 1, none⟩ = some (.string x1) := ⟨P6.row.cell 0, P6.row.cell 1⟩))
        all_goals (go_wp2_with fail; go_meet; exact ⟨v6, rfl, P6⟩)
      case rest =>
      obtain ⟨w7, hwc⟩ : ∃ W, W = wc := ⟨_, rfl⟩
      subst hwc
      obtain ⟨v7, hv7, P7⟩ := hcut
      have hv8 := hv7.symm
      subst hv8
      have HP7 : Hid (PB w1.heap.size w1 V w7 v7 A3 X #[.int .i64 x0, .string x1, .bool x2, .int .i64 x3, .int .i64 x4]) := P7
      clear cN cT c0 c1 HP0
      have d2 : w7.drew.cell? ⟨X, 2, none⟩ = some (.bool x2) := P7.row.cell 2
      have d3 : w7.drew.cell? ⟨X, 3, none⟩ = some (.int .i64 x3) := P7.row.cell 3
      have d4 : w7.drew.cell? ⟨X, 4, none⟩ = some (.int .i64 x4) := P7.row.cell 4
      clear P7
      go_upto_region 8 with fail
      go_region_held3 (fun W : World => W.cell? ⟨X, 2, none⟩ = some (.bool x2) ∧ W.cell? ⟨X, 3, none⟩ = some (.int .i64 x3) ∧ W.cell? ⟨X, 4, none⟩ = some (.int .i64 x4)) (first | exact ⟨(HP7.out.row.alloc _).cell 2, (HP7.out.row.alloc _).cell 3, (HP7.out.row.alloc _).cell 4⟩ | (go_keep; done)) (first
        | (go_at_call 30; (with_reducible refine (cG _).mono ?_); rintro e w8 ⟨rfl, hw8⟩; obtain rfl := hw8.symm)
        | (go_at_call 28; refine (cM _ V _ X _ (HP7.out.alloc (Nat.le_refl _) _).drew (Blk.newAt (by simp)).drew).mono ?_; rintro e w9 ⟨v9, rfl, P9⟩; obtain ⟨t2, t3, t4⟩ : w9.cell? ⟨X, 2, none⟩ = some (.bool x2) ∧ w9.cell? ⟨X, 3, none⟩ = some (.int .i64 x3) ∧ w9.cell? ⟨X, 4, none⟩ = some (.int .i64 x4) := ⟨P9.row.cell 2, P9.row.cell 3, P9.row.cell 4⟩))
      all_goals (have HP9 : Hid (PB w1.heap.size w1 V w9 v9 A4 X #[.int .i64 x0, .string x1, .bool x2, .int .i64 x3, .int .i64 x4]) := P9; clear P9 HP7 d2 d3 d4 t2 t3 t4 cM cG)
      all_goals go_wp2
      all_goals go_roundw
      all_goals first
        | (case rel => exact ⟨k + 1, A4, by omega, by go_num, HP9.out.own, hnx, by omega, HP9.out.below⟩)
        | (case rel => (repeat apply Exists.intro); exact ⟨⟨k + 1, A4, by omega, by go_num, HP9.out.own, hnx, by omega, HP9.out.below⟩, rfl⟩)
        | (case measure => simp [intOf]; omega)
    · have hki : ¬ (k : Int) < (n : Int) := by omega
      obtain rfl : k = n := by omega
      have he : acc = Y := hacc.out.trans HE.out
      subst he
      obtain ⟨g, cg, rfl, hg, hown⟩ := ho.out.some HNE
      go_wp2
      go_ret
      exact ⟨g, cg, rfl, by omega, hown, HB1.out.trans (hB.out.mono hb1)⟩
set_option maxHeartbeats 1000000 in
theorem putTableI_no (nx : Int) (a : Option Addr) (n cap : Nat) (ps : List RwD) (w : World) (hf : WR w a n ps) (hok : tbB nx ps = false) :
    Calls Try.prog 9 #[.agg #[.int .i64 nx, .slice a n cap]] w fun e w' => e = .returned (.slice none 0 0) ∧ Below w.heap.size w w' := by
  have B0 : Below w.heap.size w (w.alloc (.cells #[.int .i64 nx, .slice a n cap] 26)) := (Below.refl _ w).alloc (Nat.le_refl _) _
  have cF := tableOkI nx a n cap ps _ (hf.keep B0)
  rw [hok] at cF
  clear hf hok
  go_enter Try.func9, Try.ntmps9
  go_wp2_with fail
  refine cF.mono ?_
  rintro e w1 ⟨rfl, b1⟩
  go_wp2
  go_ret
  exact ⟨rfl, B0.trans (b1.mono B0.size)⟩
set_option maxRecDepth 100000 in
set_option maxHeartbeats 8000000 in
theorem putTableS_yes (nx : Int) (a : Option Addr) (n cap : Nat) (ps : List RwD) (w : World) (hf : WR w a n ps) (hok : tbB nx ps = true) :
    Calls Try.prog 19 #[.agg #[.int .i64 nx, .slice a n cap]] w (PutPost w (tbEnc nx ps).length (tbEnc nx ps)) := by
  have hn6 : n ≤ 6 := by have := (tbB_self hok).1; rw [hf.len] at this; exact this
  have B0 : Below w.heap.size w (w.alloc (.cells #[.int .i64 nx, .slice a n cap] 26)) := (Below.refl _ w).alloc (Nat.le_refl _) _
  have z0 := Blk.new w 26 #[.int .i64 nx, .slice a n cap]
  have cF := tableOkS nx a n cap ps _ (hf.keep B0)
  rw [hok] at cF
  have HNM : Hid _ := tb_names hok
  have HPR : Hid (WR w a n ps) := hf
  have HE : Hid (tbT nx n ps n = tbEnc nx ps) := tbT_all nx n ps hf.len
  have L1 := enc_len nx
  have n1 : ∀ (W : World) (ad : Addr), Calls Try.prog 48 #[.slice (some ad) 0 0, .int .i64 nx] W (PutPost W (enc nx).length (enc nx)) := fun W ad => specNum0 ad nx W
  have n2 : ∀ (W : World) (g c : Nat), Own W g (enc nx).length c (enc nx) → Calls Try.prog 48 #[.slice (some ⟨g, 0, none⟩) (enc nx).length c, .int .i64 (n : Int)] W (PutPost W (enc nx ++ enc (n : Int)).length (enc nx ++ enc (n : Int))) := fun W g c h => specNumB g c _ (n : Int) W (by omega) h
  have HT0 : Hid (enc nx ++ enc (n : Int) = tbT nx n ps 0) := by show _ = _; rw [tbT_zero]; simp [encs]
  have hL0 : (enc nx ++ enc (n : Int)).length ≤ 8 := by rw [List.length_append]; have := enc_len (n : Int); omega
  generalize tbEnc nx ps = Y at HE ⊢
  generalize enc nx ++ enc (n : Int) = Y2 at n2 HT0 hL0
  generalize enc nx = Y1 at n1 n2 L1
  clear hf hok
  obtain ⟨H, hH⟩ : ∃ H, w.heap.size = H := ⟨_, rfl⟩
  go_enter Try.func19, Try.ntmps19
  go_wp2_with fail
  refine cF.mono ?_
  rintro e w1 ⟨rfl, b1⟩
  have B1 := B0.trans (b1.mono B0.size)
  have z1 : Blk w1 H 26 #[.int .i64 nx, .slice a n cap] := by have := z0.keep b1; rw [hH] at this; exact this
  have hb1 := B1.size
  clear B0 z0 b1 cF
  have bX : Below w1.heap.size w1 (w1.alloc (.cells #[] 5)).drew := ((Below.refl _ w1).alloc (Nat.le_refl _) _).drew
  have bX' : Below w1.heap.size w1 (w1.alloc (.cells #[] 5)) := (Below.refl _ w1).alloc (Nat.le_refl _) _
  have zX := z1.keep bX
  have zX' := z1.keep bX'
  obtain ⟨q0, q1⟩ : _ ∧ _ := ⟨z1.cell 0, z1.cell 1⟩
  obtain ⟨j0, j1⟩ : _ ∧ _ := ⟨zX'.cell 0, zX'.cell 1⟩
  simp at q0 q1 j0 j1
  have HB1 : Hid (Below w.heap.size w w1) := B1
  have HZ1 : Hid (Blk w1 H 26 #[.int .i64 nx, .slice a n cap]) := z1
  clear B1 z1 zX'
  go_upto_region 3 with fail
  go_cut [3] (fun s wx => ∃ g c, s = .slice (some ⟨g, 0, none⟩) Y2.length c ∧ w1.heap.size ≤ g ∧ Own wx g Y2.length c Y2 ∧ Below w1.heap.size w1 wx)
  case first =>
    go_region_held3 (fun W : World => W.cell? ⟨H, 0, none⟩ = some (.int .i64 nx) ∧ W.cell? ⟨H, 1, none⟩ = some (.slice a n cap)) (go_keep) (first
      | (go_at_call 48; (with_reducible refine (n1 _ _).mono ?_); rintro e wA ⟨gA, cA, rfl, hgA, oA, bA⟩; have zA := zX.keep bA; have tA := bX.trans (bA.mono bX.size); obtain ⟨s0, s1⟩ : _ ∧ _ := ⟨zA.cell 0, zA.cell 1⟩; simp at s0 s1)
      | (go_at_call 48; (with_reducible refine (n2 wA gA cA oA).mono ?_); rintro e wB ⟨gB, cB, rfl, hgB, oB, bB⟩; have zB := zA.keep bB; obtain ⟨t0, t1⟩ : _ ∧ _ := ⟨zB.cell 0, zB.cell 1⟩; simp at t0 t1))
    all_goals (go_wp2_with fail; go_meet; exact ⟨gB, cB, rfl, Nat.le_trans tA.size hgB, oB, tA.trans (bB.mono tA.size)⟩)
  case rest =>
  obtain ⟨g, cg, rfl, hg, o2, T2⟩ := hcut
  obtain ⟨w2, hwc⟩ : ∃ W, W = wc := ⟨_, rfl⟩
  subst hwc
  clear n1 n2 q0 q1 zX bX bX' j0 j1
  have HO2 : Hid (Own w2 g Y2.length cg Y2) := o2
  have HT2 : Hid (Below w1.heap.size w1 w2) := T2
  clear o2 T2
  go_wp2
  go_loopw [3, 4] (fun u i wr => ∃ (k : Nat) (acc : List Int) (g c : Nat), k ≤ n ∧ i = .int .i64 k ∧ u = .slice (some ⟨g, 0, none⟩) acc.length c ∧ w1.heap.size ≤ g ∧ Hid (Own wr g acc.length c acc) ∧ Hid (acc = tbT nx n ps k) ∧ acc.length ≤ 8 + 34 * k ∧ Hid (Below w1.heap.size w1 wr)) (fun _ i _ => n - (intOf i).toNat)
  case atStart => exact ⟨0, Y2, g, cg, Nat.zero_le _, rfl, rfl, hg, HO2, HT0, by omega, HT2⟩
  case round =>
    obtain ⟨k, acc, g1, c1, hk, rfl, rfl, hg1, ho, hacc, hlen, hB⟩ := hrel
    clear HO2 HT0 hL0 HT2 hg
    have zr := HZ1.out.keep hB.out
    have m1 := zr.cell 1
    simp at m1
    by_cases hkn : k < n
    · have hki : (k : Int) < (n : Int) := by omega
      obtain ⟨b, off, r, rfl, hlt, hrk, x6⟩ := (HPR.out.keep (HB1.out.trans (hB.out.mono hb1))).some hkn
      have hnx : Hid (acc ++ enc r.id ++ encT r.name ++ enc (roN r.ro) ++ enc r.lim ++ enc r.mp = tbT nx n ps (k + 1)) := by show _ = _; rw [tbT_succ hrk, hacc.out]; simp [rwEnc, encs, encTs]
      have hnm := HNM.out r (List.mem_of_getElem? hrk)
      obtain ⟨y0, y1, y2, y3, y4⟩ := x6
      obtain ⟨x0, x1, x2, x3, x4⟩ := r
      dsimp only at y0 y1 y2 y3 y4 hnx hnm
      have hL0 := enc_len x0
      have hL1 := encT_len x1
      have hL2 := enc_len (roN x2)
      have hL3 := enc_len x3
      have hL4 := enc_len x4
      have l1 : (acc ++ enc x0).length ≤ acc.length + 4 := by rw [List.length_append]; omega
      have l2 : (acc ++ enc x0 ++ encT x1).length ≤ acc.length + 22 := by rw [List.length_append]; omega
      have l3 : (acc ++ enc x0 ++ encT x1 ++ enc (roN x2)).length ≤ acc.length + 26 := by rw [List.length_append]; omega
      have l4 : (acc ++ enc x0 ++ encT x1 ++ enc (roN x2) ++ enc x3).length ≤ acc.length + 30 := by rw [List.length_append]; omega
      have l5 : (acc ++ enc x0 ++ encT x1 ++ enc (roN x2) ++ enc x3 ++ enc x4).length ≤ acc.length + 34 := by rw [List.length_append]; omega
      have hsz := hB.out.size
      have bl0 := Blk.new wr 35 #[.int .i64 x0, .string x1, .bool x2, .int .i64 x3, .int .i64 x4]
      have bW0 : Below w1.heap.size w1 (wr.alloc (.cells #[.int .i64 x0, .string x1, .bool x2, .int .i64 x3, .int .i64 x4] 35)) := hB.out.alloc hsz _
      have oW0 : Own (wr.alloc (.cells #[.int .i64 x0, .string x1, .bool x2, .int .i64 x3, .int .i64 x4] 35)) g1 acc.length c1 acc := ho.out.keep ((Below.refl _ wr).alloc (Nat.le_refl _) _) ho.out.lt
      clear hL0 hL1 hL2 hL3 hL4
      have n1 : ∀ (W : World), Own W g1 acc.length c1 acc → Calls Try.prog 48 #[.slice (some ⟨g1, 0, none⟩) acc.length c1, .int .i64 x0] W (PutPost W (acc ++ enc x0).length (acc ++ enc x0)) := fun W h => specNumB g1 c1 _ x0 W (by omega) h
      have n2 : ∀ (W : World) (g c : Nat), Own W g (acc ++ enc x0).length c (acc ++ enc x0) → Calls Try.prog 49 #[.slice (some ⟨g, 0, none⟩) (acc ++ enc x0).length c, .string x1] W (PutPost W (acc ++ enc x0 ++ encT x1).length (acc ++ enc x0 ++ encT x1)) := fun W g c h => specTextB g c _ x1 W (by omega) (by omega) h
      have n3 : ∀ (W : World) (g c : Nat), Own W g (acc ++ enc x0 ++ encT x1).length c (acc ++ enc x0 ++ encT x1) → Calls Try.prog 48 #[.slice (some ⟨g, 0, none⟩) (acc ++ enc x0 ++ encT x1).length c, .int .i64 (roN x2)] W (PutPost W (acc ++ enc x0 ++ encT x1 ++ enc (roN x2)).length (acc ++ enc x0 ++ encT x1 ++ enc (roN x2))) := fun W g c h => specNumB g c _ (roN x2) W (by omega) h
      have n4 : ∀ (W : World) (g c : Nat), Own W g (acc ++ enc x0 ++ encT x1 ++ enc (roN x2)).length c (acc ++ enc x0 ++ encT x1 ++ enc (roN x2)) → Calls Try.prog 48 #[.slice (some ⟨g, 0, none⟩) (acc ++ enc x0 ++ encT x1 ++ enc (roN x2)).length c, .int .i64 x3] W (PutPost W (acc ++ enc x0 ++ encT x1 ++ enc (roN x2) ++ enc x3).length (acc ++ enc x0 ++ encT x1 ++ enc (roN x2) ++ enc x3)) := fun W g c h => specNumB g c _ x3 W (by omega) h
      have n5 : ∀ (W : World) (g c : Nat), Own W g (acc ++ enc x0 ++ encT x1 ++ enc (roN x2) ++ enc x3).length c (acc ++ enc x0 ++ encT x1 ++ enc (roN x2) ++ enc x3) → Calls Try.prog 48 #[.slice (some ⟨g, 0, none⟩) (acc ++ enc x0 ++ encT x1 ++ enc (roN x2) ++ enc x3).length c, .int .i64 x4] W (PutPost W (acc ++ enc x0 ++ encT x1 ++ enc (roN x2) ++ enc x3 ++ enc x4).length (acc ++ enc x0 ++ encT x1 ++ enc (roN x2) ++ enc x3 ++ enc x4)) := fun W g c h => specNumB g c _ x4 W (by omega) h
      obtain ⟨y, hy⟩ : ∃ y, roN x2 = y := ⟨_, rfl⟩
      have HY : Hid ((x2 = true ∧ y = 1) ∨ (x2 = false ∧ y = 0)) := by show _ ∨ _; rw [← hy]; cases x2 <;> simp [roN]
      rw [hy] at n3 n4 n5 hnx l3 l4 l5
      generalize acc ++ enc x0 ++ encT x1 ++ enc y ++ enc x3 ++ enc x4 = A5 at n5 hnx l5
      generalize acc ++ enc x0 ++ encT x1 ++ enc y ++ enc x3 = A4 at n4 n5 l4
      generalize acc ++ enc x0 ++ encT x1 ++ enc y = A3 at n3 n4 l3
      generalize acc ++ enc x0 ++ encT x1 = A2 at n2 n3 l2
      generalize acc ++ enc x0 = A1 at n1 n2 l1
      clear hrk hacc zr hy ho hB
      go_upto_region 8 with fail
      obtain ⟨V, hV⟩ : ∃ V, wr.alloc (.cells #[.int .i64 x0, .string x1, .bool x2, .int .i64 x3, .int .i64 x4] 35) = V := ⟨_, rfl⟩
      obtain ⟨X, hX⟩ : ∃ X, wr.heap.size = X := ⟨_, rfl⟩
      rw [hV, hX] at bl0 ⊢
      rw [hV] at bW0 oW0
      rw [hX] at hsz
      clear hV hX y0 y1 y2 y3 y4 m1
      have HBV : Hid (Below w1.heap.size w1 V) := bW0
      have HOV : Hid (Own V g1 acc.length c1 acc) := oW0
      have HBL : Hid (Blk V X 35 #[.int .i64 x0, .string x1, .bool x2, .int .i64 x3, .int .i64 x4]) := bl0
      have v2 : V.cell? ⟨X, 2, none⟩ = some (.bool x2) := bl0.cell 2
      clear bW0 oW0 bl0
      rcases HY.out with ⟨rfl, rfl⟩ | ⟨rfl, rfl⟩
      · have d0 : V.drew.cell? ⟨X, 0, none⟩ = some (.int .i64 x0) := HBL.out.cell 0
        have d1 : V.drew.cell? ⟨X, 1, none⟩ = some (.string x1) := HBL.out.cell 1
        have od : Own V.drew g1 acc.length c1 acc := HOV.out
        have hBD : Below w1.heap.size w1 V.drew := HBV.out.drew
        have HX : Hid (∀ W : World, Below V.drew.heap.size V.drew W → W.cell? ⟨X, 0, none⟩ = some (.int .i64 x0) ∧ W.cell? ⟨X, 1, none⟩ = some (.string x1)) := fun W hW => by
          have zz := (show Blk V.drew X 35 #[.int .i64 x0, .string x1, .bool true, .int .i64 x3, .int .i64 x4] from HBL.out).keep hW
          exact ⟨zz.cell 0, zz.cell 1⟩
        go_upto_region 11 with fail
        clear v2
        go_cut [3] (fun s wx => ∃ g c, s = .slice (some ⟨g, 0, none⟩) A3.length c ∧ w1.heap.size ≤ g ∧ Own wx g A3.length c A3 ∧ Below V.drew.heap.size V.drew wx)
        case first =>
          go_region_held3 (fun W : World => W.cell? ⟨X, 0, none⟩ = some (.int .i64 x0) ∧ W.cell? ⟨X, 1, none⟩ = some (.string x1)) (go_keep) (first
            | (go_at_call 48; (with_reducible refine (n1 V.drew od).mono ?_); rintro e wA ⟨gA, cA, rfl, hgA, oA, bA⟩; obtain ⟨s0, s1⟩ := HX.out wA bA)
            | (go_at_call 49; (with_reducible refine (n2 wA gA cA oA).mono ?_); rintro e wB ⟨gB, cB, rfl, hgB, oB, bB⟩; have tB := bA.trans (bB.mono bA.size); obtain ⟨t0, t1⟩ := HX.out wB tB)
            | (go_at_call 48; (with_reducible refine (n3 wB gB cB oB).mono ?_); rintro e wC ⟨gC, cC, rfl, hgC, oC, bC⟩; have tC := tB.trans (bC.mono tB.size); obtain ⟨r0, r1⟩ := HX.out wC tC))
          all_goals (go_wp2_with fail; go_meet; exact ⟨gC, cC, rfl, Nat.le_trans (hBD.trans (tB.mono hBD.size)).size hgC, oC, tC⟩)
        case rest =>
        obtain ⟨g2, c2, rfl, hg2, o3, tV⟩ := hcut
        obtain ⟨w7, hwc⟩ : ∃ W, W = wc := ⟨_, rfl⟩
        subst hwc
        clear n1 n2 n3 d0 d1 od hBD HX
        have bl7 := HBL.out.drew.keep tV
        have e3 : w7.drew.cell? ⟨X, 3, none⟩ = some (.int .i64 x3) := bl7.cell 3
        have e4 : w7.drew.cell? ⟨X, 4, none⟩ = some (.int .i64 x4) := bl7.cell 4
        have hB7 : Below w1.heap.size w1 w7.drew := (HBV.out.drew.trans (tV.mono HBV.out.drew.size)).drew
        have od : Own w7.drew g2 A3.length c2 A3 := o3
        have HX : Hid (∀ W : World, Below w7.drew.heap.size w7.drew W → W.cell? ⟨X, 3, none⟩ = some (.int .i64 x3) ∧ W.cell? ⟨X, 4, none⟩ = some (.int .i64 x4)) := fun W hW => by
          have zz := (show Blk w7.drew X 35 #[.int .i64 x0, .string x1, .bool true, .int .i64 x3, .int .i64 x4] from bl7).keep hW
          exact ⟨zz.cell 3, zz.cell 4⟩
        clear bl7 tV o3
        go_upto_region 12 with fail
        go_region_held3 (fun W : World => W.cell? ⟨X, 3, none⟩ = some (.int .i64 x3) ∧ W.cell? ⟨X, 4, none⟩ = some (.int .i64 x4)) (go_keep) (first
          | (go_at_call 48; (with_reducible refine (n4 w7.drew g2 c2 od).mono ?_); rintro e wA ⟨gA, cA, rfl, hgA, oA, bA⟩; have tA := hB7.trans (bA.mono hB7.size); obtain ⟨s0, s1⟩ := HX.out wA bA)
          | (go_at_call 48; (with_reducible refine (n5 wA gA cA oA).mono ?_); rintro e wB ⟨gB, cB, rfl, hgB, oB, bB⟩; have tB := tA.trans (bB.mono tA.size); obtain ⟨t0, t1⟩ := HX.out wB (bA.trans (bB.mono bA.size))))
        all_goals (have HO : Hid (Own wB gB A5.length cB A5) := oB; have HT3 : Hid (Below w1.heap.size w1 wB) := tB; have hgB' : w1.heap.size ≤ gB := Nat.le_trans tA.size hgB; clear n4 n5 od hB7 oA oB tA tB bA bB hgA hgB s0 s1 t0 t1 e3 e4 HX HBV HOV HBL)
        all_goals go_wp2
        all_goals go_roundw
        all_goals first
          | (case rel => exact ⟨k + 1, A5, gB, cB, by omega, by go_num, rfl, hgB', HO, hnx, by omega, HT3⟩)
          | (case rel => (repeat apply Exists.intro); exact ⟨⟨k + 1, A5, gB, cB, by omega, by go_num, rfl, hgB', HO, hnx, by omega, HT3⟩, rfl⟩)
          | (case measure => simp [intOf]; omega)
      · have d0 : V.drew.cell? ⟨X, 0, none⟩ = some (.int .i64 x0) := HBL.out.cell 0
        have d1 : V.drew.cell? ⟨X, 1, none⟩ = some (.string x1) := HBL.out.cell 1
        have od : Own V.drew g1 acc.length c1 acc := HOV.out
        have hBD : Below w1.heap.size w1 V.drew := HBV.out.drew
        have HX : Hid (∀ W : World, Below V.drew.heap.size V.drew W → W.cell? ⟨X, 0, none⟩ = some (.int .i64 x0) ∧ W.cell? ⟨X, 1, none⟩ = some (.string x1)) := fun W hW => by
          have zz := (show Blk V.drew X 35 #[.int .i64 x0, .string x1, .bool false, .int .i64 x3, .int .i64 x4] from HBL.out).keep hW
          exact ⟨zz.cell 0, zz.cell 1⟩
        go_upto_region 11 with fail
        clear v2
        go_cut [3] (fun s wx => ∃ g c, s = .slice (some ⟨g, 0, none⟩) A3.length c ∧ w1.heap.size ≤ g ∧ Own wx g A3.length c A3 ∧ Below V.drew.heap.size V.drew wx)
        case first =>
          go_region_held3 (fun W : World => W.cell? ⟨X, 0, none⟩ = some (.int .i64 x0) ∧ W.cell? ⟨X, 1, none⟩ = some (.string x1)) (go_keep) (first
            | (go_at_call 48; (with_reducible refine (n1 V.drew od).mono ?_); rintro e wA ⟨gA, cA, rfl, hgA, oA, bA⟩; obtain ⟨s0, s1⟩ := HX.out wA bA)
            | (go_at_call 49; (with_reducible refine (n2 wA gA cA oA).mono ?_); rintro e wB ⟨gB, cB, rfl, hgB, oB, bB⟩; have tB := bA.trans (bB.mono bA.size); obtain ⟨t0, t1⟩ := HX.out wB tB)
            | (go_at_call 48; (with_reducible refine (n3 wB gB cB oB).mono ?_); rintro e wC ⟨gC, cC, rfl, hgC, oC, bC⟩; have tC := tB.trans (bC.mono tB.size); obtain ⟨r0, r1⟩ := HX.out wC tC))
          all_goals (go_wp2_with fail; go_meet; exact ⟨gC, cC, rfl, Nat.le_trans (hBD.trans (tB.mono hBD.size)).size hgC, oC, tC⟩)
        case rest =>
        obtain ⟨g2, c2, rfl, hg2, o3, tV⟩ := hcut
        obtain ⟨w7, hwc⟩ : ∃ W, W = wc := ⟨_, rfl⟩
        subst hwc
        clear n1 n2 n3 d0 d1 od hBD HX
        have bl7 := HBL.out.drew.keep tV
        have e3 : w7.drew.cell? ⟨X, 3, none⟩ = some (.int .i64 x3) := bl7.cell 3
        have e4 : w7.drew.cell? ⟨X, 4, none⟩ = some (.int .i64 x4) := bl7.cell 4
        have hB7 : Below w1.heap.size w1 w7.drew := (HBV.out.drew.trans (tV.mono HBV.out.drew.size)).drew
        have od : Own w7.drew g2 A3.length c2 A3 := o3
        have HX : Hid (∀ W : World, Below w7.drew.heap.size w7.drew W → W.cell? ⟨X, 3, none⟩ = some (.int .i64 x3) ∧ W.cell? ⟨X, 4, none⟩ = some (.int .i64 x4)) := fun W hW => by
          have zz := (show Blk w7.drew X 35 #[.int .i64 x0, .string x1, .bool false, .int .i64 x3, .int .i64 x4] from bl7).keep hW
          exact ⟨zz.cell 3, zz.cell 4⟩
        clear bl7 tV o3
        go_upto_region 12 with fail
        go_region_held3 (fun W : World => W.cell? ⟨X, 3, none⟩ = some (.int .i64 x3) ∧ W.cell? ⟨X, 4, none⟩ = some (.int .i64 x4)) (go_keep) (first
          | (go_at_call 48; (with_reducible refine (n4 w7.drew g2 c2 od).mono ?_); rintro e wA ⟨gA, cA, rfl, hgA, oA, bA⟩; have tA := hB7.trans (bA.mono hB7.size); obtain ⟨s0, s1⟩ := HX.out wA bA)
          | (go_at_call 48; (with_reducible refine (n5 wA gA cA oA).mono ?_); rintro e wB ⟨gB, cB, rfl, hgB, oB, bB⟩; have tB := tA.trans (bB.mono tA.size); obtain ⟨t0, t1⟩ := HX.out wB (bA.trans (bB.mono bA.size))))
        all_goals (have HO : Hid (Own wB gB A5.length cB A5) := oB; have HT3 : Hid (Below w1.heap.size w1 wB) := tB; have hgB' : w1.heap.size ≤ gB := Nat.le_trans tA.size hgB; clear n4 n5 od hB7 oA oB tA tB bA bB hgA hgB s0 s1 t0 t1 e3 e4 HX HBV HOV HBL)
        all_goals go_wp2
        all_goals go_roundw
        all_goals first
          | (case rel => exact ⟨k + 1, A5, gB, cB, by omega, by go_num, rfl, hgB', HO, hnx, by omega, HT3⟩)
          | (case rel => (repeat apply Exists.intro); exact ⟨⟨k + 1, A5, gB, cB, by omega, by go_num, rfl, hgB', HO, hnx, by omega, HT3⟩, rfl⟩)
          | (case measure => simp [intOf]; omega)
    · have hki : ¬ (k : Int) < (n : Int) := by omega
      obtain rfl : k = n := by omega
      have he : acc = Y := hacc.out.trans HE.out
      subst he
      go_wp2
      go_ret
      exact ⟨g1, c1, rfl, by omega, ho.out, HB1.out.trans (hB.out.mono hb1)⟩
/-- The bytes that are put: none, if it is not right. -/
def tbPut (nx : Int) (ps : List RwD) : List Int := if tbB nx ps = true then tbEnc nx ps else []
end

section
open Go.ChangeShapes Go.WideShapes Go.ChangeAt Go.RowKit
section
variable {H : Type} {enc : TypeId × Value → H} {w : World} {base : Nat} {held : Bool}
theorem cells_row {a : Addr} {cs : List Value} {k : Nat} (h : w.cells? base a k = some cs) (_h1 : cs.length = k) : ∀ j, j < k → w.cell? (a.add j) = cs[j]? := by
  unfold World.cells? at h
  split at h
  · intro j hj
    have hm : ∀ (l : List Nat) (cs : List Value), l.mapM (fun i => w.cell? (a.add i)) = some cs → ∀ (i x : Nat), l[i]? = some x → w.cell? (a.add x) = cs[i]? := by
      intro l
      induction l with
      | nil => intro cs _ i x hx; simp at hx
      | cons y l ih =>
        intro cs hc i x hx
        simp only [List.mapM_cons, Option.bind_eq_bind, Option.pure_def, Option.bind_eq_some_iff, Option.some.injEq] at hc
        obtain ⟨v, hv, vs, hvs, rfl⟩ := hc
        cases i with
        | zero => simp at hx; subst hx; simpa using hv
        | succ i => simp at hx ⊢; exact ih vs hvs i x hx
    exact hm _ cs h j j (by simp [hj])
  · simp at h
theorem add_any (b o j : Nat) : (⟨b, o, none⟩ : Addr).add j = ⟨b, o + j, none⟩ := by
  unfold Addr.add
  split
  · rename_i h; rw [h]; rfl
  · simp
/-- A slice of elements that came in, opened. -/
theorem open_row {P : Program} {α : Type} [Inhabited α] (E : El α) (R rd : α → Prop) {t e : TypeId} {fuel : Nat} {cs : List Value} {x : DataW H × List MemPlace} (ht : P.underlying t = some (.slice e)) (hc : P.cellsOf e = E.k)
    (hel : ∀ n cs' y, DataW.trod enc P w base (fun _ => true) held n e cs' = some y → ∃ q, cs' = E.en q ∧ R q ∧ rd q)
    (h : DataW.trod enc P w base (fun _ => true) held fuel t cs = some x) :
    ∃ (a : Option Addr) (cap : Nat) (es : List α), cs = [.slice a es.length cap] ∧ es.length ≤ maxLen ∧ (∀ q ∈ es, R q) ∧ RdE E rd w a es := by
  rcases Deep.open_slice ht h with ⟨rfl, _⟩ | ⟨a, len, cap, m, n, D, Pl, rfl, _, hl, hm, hmm, _, hx⟩
  · exact ⟨none, 0, [], rfl, Nat.zero_le _, fun q hq => by simp at hq, .inl rfl⟩
  · simp only [if_true] at hmm
    subst hmm
    rw [hc] at hx
    obtain ⟨f, hf⟩ := Deep.choose_lt (α := α) (n := len) (p := fun i q => (∀ j, j < E.k → w.cell? ((a.add (i * E.k)).add j) = (E.en q)[j]?) ∧ R q ∧ rd q) (fun i hi => by
      obtain ⟨cs', h1, h2⟩ := hx i (by omega)
      obtain ⟨q, hq, hR⟩ := hel n cs' _ h2
      have := cells_row h1 (by rw [hq]; exact E.len q)
      rw [hq] at this
      exact ⟨q, this, hR⟩)
    refine ⟨some a, m, (List.range len).map f, by simp, by simp; omega, ?_, ?_⟩
    · intro q hq
      obtain ⟨i, hi, rfl⟩ := List.mem_map.1 hq
      exact (hf i (List.mem_range.1 hi)).2.1
    · by_cases h0 : len = 0
      · subst h0; exact .inl rfl
      · obtain ⟨b, off, spot⟩ := a
        have hc0 := (hf 0 (by omega)).1 0 E.pos
        have hspot : spot = none := by
          have hp := E.pos
          have hl := E.len (f 0)
          rw [List.getElem?_eq_getElem (by omega)] at hc0
          simpa [Addr.add] using World.cell?_spot hc0
        subst hspot
        refine .inr ⟨b, off, rfl, fun i r hi => ?_⟩
        obtain ⟨hi', hr'⟩ := List.getElem?_eq_some_iff.1 hi
        simp only [List.length_map, List.length_range] at hi'
        simp at hr'
        subst hr'
        obtain ⟨k0, _, hR⟩ := hf i hi'
        refine ⟨fun j hj => ?_, hR⟩
        have := k0 j hj
        rw [add_any, add_any] at this
        exact this
end
end
end Go.Proofs.Ytmkcadnpleijdaa
