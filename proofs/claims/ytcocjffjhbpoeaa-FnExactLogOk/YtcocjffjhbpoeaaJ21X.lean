/-
  Joined: OpW, RecM.
-/
import Derived.Test.YtcocjffjhbpoeaaJ14X
import Derived.Test.YtcocjffjhbpoeaaJ20X
namespace Go.Proofs.Ytcocjffjhbpoeaa
section
open Go.RowKit
theorem RowB.keep {w w' : World} {v : Value} {n : Nat} {zs : List Int} (h : RowB w v n zs) (hb : Below w.heap.size w w') : RowB w' v n zs := h.block fun g hg => hb.block g (h.at_ hg).1
theorem RowB.gr {w w' : World} {v : Value} {n : Nat} {zs : List Int} {r : Option Nat} (h : RowB w v n zs) (hg : w.grownBy w' r) (hne : ∀ g, v.ownBlock = some g → some g ≠ r) : RowB w' v n zs := h.block fun g hv => hg.block g (h.at_ hv).1 (hne g hv)
theorem RowB.rd {w : World} {a : Option Addr} {c n : Nat} {zs : List Int} (h : RowB w (.slice a n c) n zs) : Rd w a zs := by
  obtain ⟨a', c', e, hr⟩ := h.form
  simp only [Value.slice.injEq, true_and] at e
  obtain ⟨rfl, _⟩ := e
  exact hr
theorem Own.rowB {w : World} {g n c : Nat} {zs : List Int} (h : Own w g n c zs) : RowB w (.slice (some ⟨g, 0, none⟩) n c) n zs := OwnV.rowB (B := 0) h
/-- What was changed lies at or behind B. -/
theorem below_gro {B : Nat} {w0 w w' : World} {r : Option Nat} (h : Below B w0 w) (hB : B ≤ w0.heap.size) (hg : w.grownBy w' r) (hr : ∀ g, r = some g → B ≤ g) : Below B w0 w' := h.grown hg (Nat.le_trans hB h.size) hr
/-- The bytes that are put: none, if there are none. -/
def opPut (D : OpD) : List Int := if opOk D = true then opEnc D else []
theorem opPut_len (D : OpD) (h : OpSmall D) : (opPut D).length ≤ 1048600 := by
  unfold opPut
  split
  · exact opEnc_len D h
  · simp
end

section
open Go.ChangeShapes Go.WideShapes Go.ChangeAt Go.RowKit
/-- What a record tells. -/
structure RecD where
  kind : Int
  seq : Int
  body : List Int
/-- A record's cells: its bytes lie at a. -/
def recC (D : RecD) (a : Option Addr) (c : Nat) : Array Value := #[.int .i64 D.kind, .int .i64 D.seq, .slice a D.body.length c]
section
variable {H : Type} {enc : TypeId × Value → H} {w : World} {base : Nat} {held : Bool}
end
structure Thr (W : World) (B : Nat) (v0 v1 v2 : Value) : Prop where
  c0 : W.cell? ⟨B, 0, none⟩ = some v0
  c1 : W.cell? ⟨B, 1, none⟩ = some v1
  c2 : W.cell? ⟨B, 2, none⟩ = some v2
theorem Blk.thr {W : World} {B : Nat} {t : TypeId} {v0 v1 v2 : Value} (h : Blk W B t #[v0, v1, v2]) : Thr W B v0 v1 v2 := ⟨h.cell 0, h.cell 1, h.cell 2⟩
theorem set3_blk {W : World} {X : Nat} {t : TypeId} {u0 u1 u2 : Value} (h : Blk W X t #[u0, u1, u2]) (v0 v1 v2 : Value) : Blk (((W.setCell ⟨X, 0, none⟩ v0).setCell ⟨X, 1, none⟩ v1).setCell ⟨X, 2, none⟩ v2) X t #[v0, v1, v2] := ((h.set 0 v0).set 1 v1).set 2 v2
theorem set3_gr (W : World) (X : Nat) (v0 v1 v2 : Value) : W.grownBy (((W.setCell ⟨X, 0, none⟩ v0).setCell ⟨X, 1, none⟩ v1).setCell ⟨X, 2, none⟩ v2) (some X) := ((gr_setC W X 0 v0).trans (gr_setC _ X 1 v1)).trans (gr_setC _ X 2 v2)
set_option maxHeartbeats 1600000 in
theorem eqRec_same (D : RecD) (a b : Option Addr) (c d : Nat) (w : World) (hs : D.body.length ≤ 4000000) (hr : Rd w a D.body) (hr' : Rd w b D.body) :
    Calls Try.prog 17 #[.agg (recC D a c), .agg (recC D b d)] w fun e w' => e = .returned (.bool true) ∧ Below w.heap.size w w' := by
  obtain ⟨kind, seq, body⟩ := D
  obtain ⟨n1, hn1⟩ : ∃ n, body.length = n := ⟨_, rfl⟩
  dsimp only at hs hr hr'
  unfold recC
  dsimp only
  rw [hn1] at hs
  simp only [hn1]
  have k1 : Hid (body.length = n1) := hn1
  clear hn1
  go_enter Try.func17, Try.ntmps17
  go_wp2_with fail
  have B0 : Below w.heap.size w ((w.alloc (.cells #[.int .i64 kind, .int .i64 seq, .slice a n1 c] 47)).alloc (.cells #[.int .i64 kind, .int .i64 seq, .slice b n1 d] 47)) := ((Below.refl _ w).alloc (Nat.le_refl _) _).alloc (by simp) _
  refine (eqByteS_true a b n1 c d body _ k1.out hs (hr.keep B0) (hr'.keep B0)).mono ?_
  rintro e w1 ⟨rfl, t1⟩
  have B1 := B0.trans (t1.mono B0.size)
  go_wp2
  go_ret
  exact ⟨rfl, B1⟩
/-- A record that is right. -/
def recOk (D : RecD) : Bool := decide (1 ≤ D.kind) && decide (D.kind ≤ 4) && decide (0 ≤ D.seq) && decide (D.seq ≤ 1000000) && decide (D.body.length ≤ 380)
theorem recOk_iff (D : RecD) : recOk D = true ↔ 1 ≤ D.kind ∧ D.kind ≤ 4 ∧ 0 ≤ D.seq ∧ D.seq ≤ 1000000 ∧ D.body.length ≤ 380 := by
  unfold recOk
  simp only [Bool.and_eq_true, decide_eq_true_eq, and_assoc]
set_option maxHeartbeats 1600000 in
theorem recOkI (D : RecD) (a : Option Addr) (c : Nat) (w : World) (hm : D.body.length ≤ 4000000) :
    Calls Try.prog 90 #[.agg (recC D a c)] w fun e w' => e = .returned (.bool (recOk D)) ∧ Below w.heap.size w w' := by
  obtain ⟨kind, seq, body⟩ := D
  unfold recC recOk
  dsimp only at hm ⊢
  obtain ⟨n, hn⟩ : ∃ n, body.length = n := ⟨_, rfl⟩
  rw [hn] at hm ⊢
  clear hn
  have B0 : Below w.heap.size w (w.alloc (.cells #[.int .i64 kind, .int .i64 seq, .slice a n c] 47)) := (Below.refl _ w).alloc (Nat.le_refl _) _
  by_cases h1 : 1 ≤ kind
  · by_cases h2 : kind ≤ 4
    · by_cases h3 : 0 ≤ seq
      · by_cases h4 : seq ≤ 1000000
        · by_cases h5 : n ≤ 380
          · have h5' : (n : Int) ≤ 380 := by omega
            go_enter Try.func90, Try.ntmps90
            go_wp2
            go_ret
            exact ⟨by first | (simp; omega) | (simp; done) | (simp_all; done) | (simp_all; omega), B0⟩
          · have h5' : ¬ (n : Int) ≤ 380 := by omega
            go_enter Try.func90, Try.ntmps90
            go_wp2
            go_ret
            exact ⟨by first | (simp; omega) | (simp; done) | (simp_all; done) | (simp_all; omega), B0⟩
        · go_enter Try.func90, Try.ntmps90
          go_wp2
          go_ret
          exact ⟨by first | (simp; omega) | (simp; done) | (simp_all; done) | (simp_all; omega), B0⟩
      · go_enter Try.func90, Try.ntmps90
        go_wp2
        go_ret
        exact ⟨by first | (simp; omega) | (simp; done) | (simp_all; done) | (simp_all; omega), B0⟩
    · go_enter Try.func90, Try.ntmps90
      go_wp2
      go_ret
      exact ⟨by first | (simp; omega) | (simp; done) | (simp_all; done) | (simp_all; omega), B0⟩
  · go_enter Try.func90, Try.ntmps90
    go_wp2
    go_ret
    exact ⟨by first | (simp; omega) | (simp; done) | (simp_all; done) | (simp_all; omega), B0⟩
set_option maxHeartbeats 1600000 in
theorem recOkS (D : RecD) (a : Option Addr) (c : Nat) (w : World) (hm : D.body.length ≤ 4000000) :
    Calls Try.prog 62 #[.agg (recC D a c)] w fun e w' => e = .returned (.bool (recOk D)) ∧ Below w.heap.size w w' := by
  obtain ⟨kind, seq, body⟩ := D
  unfold recC recOk
  dsimp only at hm ⊢
  obtain ⟨n, hn⟩ : ∃ n, body.length = n := ⟨_, rfl⟩
  rw [hn] at hm ⊢
  clear hn
  have B0 : Below w.heap.size w (w.alloc (.cells #[.int .i64 kind, .int .i64 seq, .slice a n c] 47)) := (Below.refl _ w).alloc (Nat.le_refl _) _
  have i1 := fun W => l1In_any kind 1 4 W
  have i2 := fun W => l1In_any seq 0 1000000 W
  by_cases h1 : 1 ≤ kind ∧ kind ≤ 4
  · have e1 : (decide (1 ≤ kind) && decide (kind ≤ 4)) = true := by simp; omega
    rw [e1] at i1
    by_cases h2 : 0 ≤ seq ∧ seq ≤ 1000000
    · have e2 : (decide (0 ≤ seq) && decide (seq ≤ 1000000)) = true := by simp; omega
      rw [e2] at i2
      by_cases h5 : n ≤ 380
      · have h5' : (n : Int) ≤ 380 := by omega
        go_enter Try.func62, Try.ntmps62
        go_wp2_with fail
        refine (i1 _).mono ?_
        rintro e w1 ⟨rfl, hw⟩
        subst hw
        go_wp2_with fail
        refine (i2 _).mono ?_
        rintro e w1 ⟨rfl, hw⟩
        subst hw
        go_wp2
        go_ret
        exact ⟨by first | (simp; omega) | (simp; done) | (simp_all; done) | (simp_all; omega), B0⟩
      · have h5' : ¬ (n : Int) ≤ 380 := by omega
        go_enter Try.func62, Try.ntmps62
        go_wp2_with fail
        refine (i1 _).mono ?_
        rintro e w1 ⟨rfl, hw⟩
        subst hw
        go_wp2_with fail
        refine (i2 _).mono ?_
        rintro e w1 ⟨rfl, hw⟩
        subst hw
        go_wp2
        go_ret
        exact ⟨by first | (simp; omega) | (simp; done) | (simp_all; done) | (simp_all; omega), B0⟩
    · have e2 : (decide (0 ≤ seq) && decide (seq ≤ 1000000)) = false := by simp; omega
      rw [e2] at i2
      go_enter Try.func62, Try.ntmps62
      go_wp2_with fail
      refine (i1 _).mono ?_
      rintro e w1 ⟨rfl, hw⟩
      subst hw
      go_wp2_with fail
      refine (i2 _).mono ?_
      rintro e w1 ⟨rfl, hw⟩
      subst hw
      go_wp2
      go_ret
      exact ⟨by first | (simp; omega) | (simp; done) | (simp_all; done) | (simp_all; omega), B0⟩
  · have e1 : (decide (1 ≤ kind) && decide (kind ≤ 4)) = false := by simp; omega
    rw [e1] at i1
    go_enter Try.func62, Try.ntmps62
    go_wp2_with fail
    refine (i1 _).mono ?_
    rintro e w1 ⟨rfl, hw⟩
    subst hw
    go_wp2
    go_ret
    exact ⟨by first | (simp; omega) | (simp; done) | (simp_all; done) | (simp_all; omega), B0⟩
set_option maxHeartbeats 800000 in
theorem markRec_any (D : RecD) (a : Option Addr) (c n : Nat) (zs : List Int) (w : World) (hn : D.body.length = n) (hs : n ≤ 4000000) (ho : RowB w (.slice a n c) n zs) :
    Calls Try.prog 19 #[.agg (recC D a c), .int .i64 1] w fun e w' => e = .returned (.int .i64 ((1 + n : Nat) : Int)) ∧ RowB w' (.slice a n c) n (marksG 1 n) ∧ w.grownBy w' (Value.slice a n c).ownBlock := by
  have hbl : ∀ g, (Value.slice a n c).ownBlock = some g → (w.alloc (.cells (recC D a c) 47)).heap[g]? = w.heap[g]? := fun g hg => ((Below.refl _ w).alloc (Nat.le_refl _) _).block g (ho.at_ hg).1
  have hg0 : w.grownBy (w.alloc (.cells (recC D a c) 47)) (Value.slice a n c).ownBlock := World.grownBy_alloc w _ _
  have ho1 := ho.block hbl
  unfold recC at ho1 hg0 ⊢
  rw [hn] at ho1 hg0 ⊢
  clear hn hbl ho
  go_enter Try.func19, Try.ntmps19
  go_wp2_with fail
  refine (markBG (.slice a n c) n 1 zs _ (Nat.le_refl _) (by omega) ho1).mono ?_
  rintro e w1 ⟨rfl, o1, g1⟩
  go_wp2
  go_ret
  exact ⟨rfl, o1, hg0.trans g1⟩
set_option maxHeartbeats 800000 in
theorem heldRec_any (D : RecD) (a : Option Addr) (c n : Nat) (w : World) (hn : D.body.length = n) (hs : n ≤ 4000000) (ho : RowB w (.slice a n c) n (marksG 1 n)) :
    Calls Try.prog 20 #[.agg (recC D a c), .int .i64 1] w fun e w' => e = .returned (.int .i64 ((1 + n : Nat) : Int)) ∧ Below w.heap.size w w' := by
  have B0 : Below w.heap.size w (w.alloc (.cells (recC D a c) 47)) := (Below.refl _ w).alloc (Nat.le_refl _) _
  have ho1 := ho.block (fun g hg => B0.block g (ho.at_ hg).1)
  unfold recC at ho1 B0 ⊢
  rw [hn] at ho1 B0 ⊢
  obtain ⟨m, hm⟩ : ∃ m, 1 + n = m := ⟨_, rfl⟩
  have hm0 : ¬ (m : Int) < 0 := by omega
  clear hn ho
  go_enter Try.func20, Try.ntmps20
  go_wp2_with fail
  refine (heldBG (.slice a n c) n 1 _ (Nat.le_refl _) (by omega) ho1).mono ?_
  rintro e w1 ⟨rfl, hw⟩
  rw [hm]
  subst hw
  go_wp2
  go_ret
  exact ⟨by rw [hm]; rfl, B0⟩
end
end Go.Proofs.Ytcocjffjhbpoeaa
