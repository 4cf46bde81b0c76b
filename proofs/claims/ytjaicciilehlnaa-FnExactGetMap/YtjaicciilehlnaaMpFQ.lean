/-
  Maps: which are right, and where an inode is; the program's.
-/
import Derived.Test.YtjaicciilehlnaaAscPQ
namespace Go.Proofs.Ytjaicciilehlnaa
open Go.RowKit
/-- A place that is right in a map whose Next is nx. -/
def plOk (nx : Int) (p : PlD) : Bool := decide (1 ≤ p.ino) && decide (p.ino < nx) && (decide (0 ≤ p.adr) && decide (p.adr ≤ 191))
/-- The i-th one is right beside the one ahead of it. -/
def plAt (nx : Int) (ps : List PlD) (i : Nat) : Bool := plOk nx (ps.getD i plZ) && (decide (i = 0) || decide ((ps.getD (i - 1) plZ).ino < (ps.getD i plZ).ino))
def mpB (nx : Int) (ps : List PlD) : Bool := (List.range ps.length).all (plAt nx ps) && (decide (ps.length ≤ 30) && (decide (2 ≤ nx) && decide (nx ≤ 1000)))
theorem plAt_at {nx : Int} {ps : List PlD} {k : Nat} {r : PlD} (h : ps[k]? = some r) : plAt nx ps k = (plOk nx r && (decide (k = 0) || decide ((ps.getD (k - 1) plZ).ino < r.ino))) := by
  unfold plAt
  have e : ps.getD k plZ = r := by simp [List.getD_eq_getElem?_getD, h]
  rw [e]
theorem mpB_asc (nx : Int) (ps : List PlD) : mpB nx ps = (decide (ps.length ≤ 30) && (decide (2 ≤ nx) && decide (nx ≤ 1000)) && (ps.all (plOk nx) && ascN (inosP ps))) := by
  rw [Bool.eq_iff_iff]
  unfold mpB ascN
  rw [inosP_length]
  simp only [Bool.and_eq_true, List.all_eq_true, List.mem_range, decide_eq_true_eq]
  have hg : ∀ i : Nat, (inosP ps).getD i 0 = (ps.getD i plZ).ino := fun i => by
    cases h : ps[i]? with
    | none => simp [inosP, List.getD_eq_getElem?_getD, h, plZ]
    | some r => simp [inosP, List.getD_eq_getElem?_getD, h]
  constructor
  · rintro ⟨h1, h2⟩
    refine ⟨h2, fun f hf => ?_, fun i hi => ?_⟩
    · obtain ⟨i, hi⟩ := List.mem_iff_getElem?.1 hf
      have := h1 i (List.getElem?_eq_some_iff.1 hi).1
      rw [plAt_at hi] at this
      simp only [Bool.and_eq_true] at this
      exact this.1
    · have := h1 i hi
      unfold plAt at this
      simp only [Bool.and_eq_true] at this
      rw [hg, hg]
      exact this.2
  · rintro ⟨h2, h1, h3⟩
    refine ⟨fun i hi => ?_, h2⟩
    obtain ⟨r, hr⟩ : ∃ r, ps[i]? = some r := ⟨_, List.getElem?_eq_getElem hi⟩
    have := h3 i hi
    rw [hg, hg] at this
    unfold plAt
    simp only [Bool.and_eq_true]
    refine ⟨?_, this⟩
    have e : ps.getD i plZ = r := by simp [List.getD_eq_getElem?_getD, hr]
    rw [e]
    exact h1 r (List.mem_of_getElem? hr)
set_option maxHeartbeats 3200000 in
theorem placeOkI (t u nx : Int) (w : World) :
    Calls Try.prog 37 #[.agg #[.int .i64 t, .int .i64 u], .int .i64 nx] w fun e w' => e = .returned (.bool (plOk nx ⟨t, u⟩)) ∧ Below w.heap.size w w' := by
  have B0 : Below w.heap.size w (w.alloc (.cells #[.int .i64 t, .int .i64 u] 36)) := (Below.refl _ w).alloc (Nat.le_refl _) _
  unfold plOk
  dsimp only
  have HB : Hid _ := B0
  clear B0
  by_cases h1 : 1 ≤ t
  · by_cases h2 : t < nx
    · by_cases h3 : 0 ≤ u
      · by_cases h4 : u ≤ 191
        · go_enter Try.func37, Try.ntmps37
          go_wp2
          go_ret
          exact ⟨by simp; omega, HB.out⟩
        · go_enter Try.func37, Try.ntmps37
          go_wp2
          go_ret
          exact ⟨by simp; omega, HB.out⟩
      · go_enter Try.func37, Try.ntmps37
        go_wp2
        go_ret
        exact ⟨by simp; omega, HB.out⟩
    · go_enter Try.func37, Try.ntmps37
      go_wp2
      go_ret
      exact ⟨by simp; omega, HB.out⟩
  · go_enter Try.func37, Try.ntmps37
    go_wp2
    go_ret
    exact ⟨by simp; omega, HB.out⟩
set_option maxRecDepth 100000 in
set_option maxHeartbeats 4000000 in
theorem mapOkI (nx : Int) (a : Option Addr) (n cap : Nat) (ps : List PlD) (w : World) (hf : PR w a n ps) :
    Calls Try.prog 14 #[.agg #[.int .i64 nx, .slice a n cap]] w fun e w' => e = .returned (.bool (mpB nx ps)) ∧ Below w.heap.size w w' := by
  rw [mpB_asc, hf.len]
  have hs := hf.tot
  have B0 : Below w.heap.size w (w.alloc (.cells #[.int .i64 nx, .slice a n cap] 26)) := (Below.refl _ w).alloc (Nat.le_refl _) _
  have z0 := Blk.new w 26 #[.int .i64 nx, .slice a n cap]
  by_cases h20 : n ≤ 30
  case neg =>
    have hd : (30 : Int) < (n : Int) := by omega
    rw [decide_eq_false h20, Bool.false_and, Bool.false_and]
    go_enter Try.func14, Try.ntmps14
    go_wp2
    go_ret
    exact ⟨rfl, B0⟩
  have hd : ¬ (30 : Int) < (n : Int) := by omega
  rw [decide_eq_true h20, Bool.true_and]
  by_cases hx1 : 2 ≤ nx
  case neg =>
    have hx1' : nx < 2 := by omega
    rw [decide_eq_false hx1, Bool.false_and, Bool.false_and]
    go_enter Try.func14, Try.ntmps14
    go_wp2
    go_ret
    exact ⟨rfl, B0⟩
  rw [decide_eq_true hx1, Bool.true_and]
  by_cases hx2 : nx ≤ 1000
  case neg =>
    have hx2' : 1000 < nx := by omega
    rw [decide_eq_false hx2, Bool.false_and]
    go_enter Try.func14, Try.ntmps14
    go_wp2
    go_ret
    exact ⟨rfl, B0⟩
  rw [decide_eq_true hx2, Bool.true_and]
  have HR : Hid (PR w a n ps) := hf
  have hln : Hid (ps.length = n) := hf.len
  obtain ⟨R, hR⟩ : ∃ R, (ps.all (plOk nx) && ascN (inosP ps)) = R := ⟨_, rfl⟩
  have HRR : Hid _ := hR
  rw [hR]
  clear hf hR
  have HZ : Hid (Blk (w.alloc (.cells #[.int .i64 nx, .slice a n cap] 26)) w.heap.size 26 #[.int .i64 nx, .slice a n cap]) := z0
  have HB0 : Hid _ := B0
  clear z0 B0
  go_enter Try.func14, Try.ntmps14
  go_wp2
  go_loopw [22] (fun i wr => ∃ (k : Nat), k ≤ n ∧ i = .int .i64 k ∧ Hid (∀ (j : Nat) (b : PlD), j < k → ps[j]? = some b → plOk nx b = true) ∧ Hid (Below w.heap.size w wr) ∧ Hid (Blk wr w.heap.size 26 #[.int .i64 nx, .slice a n cap])) (fun i _ => n - (intOf i).toNat)
  case atStart => exact ⟨0, Nat.zero_le _, rfl, fun j b hj => by omega, HB0.out, HZ.out⟩
  case round =>
    obtain ⟨k, hk, rfl, hall, hB, hZ⟩ := hrel
    clear HZ HB0
    by_cases hkn : k < n
    · have hki : (k : Int) < (n : Int) := by omega
      obtain ⟨b, off, r, rfl, hlt, hrk, x0, x1⟩ := (HR.out.keep hB.out).some hkn
      have hB2 : Hid (Below w.heap.size w (wr.alloc (.cells #[.int .i64 r.ino, .int .i64 r.adr] 36))) := hB.out.alloc hB.out.size _
      have hZ2 : Blk (wr.alloc (.cells #[.int .i64 r.ino, .int .i64 r.adr] 36)) w.heap.size 26 #[.int .i64 nx, .slice (some ⟨b, off, none⟩) n cap] := hZ.out.alloc _
      have hcall := placeOkI r.ino r.adr nx (wr.alloc (.cells #[.int .i64 r.ino, .int .i64 r.adr] 36))
      have hmem : Hid (plOk nx r = false → R = false) := fun h => by
        rw [← HRR.out]
        have : ps.all (plOk nx) = false := by
          rw [List.all_eq_false]
          exact ⟨r, List.mem_of_getElem? hrk, by simp [h]⟩
        rw [this]; rfl
      have hnx : Hid (plOk nx r = true → ∀ (j : Nat) (b : PlD), j < k + 1 → ps[j]? = some b → plOk nx b = true) := fun h j b hj hb => by
        rcases (show j < k ∨ j = k by omega) with h1 | rfl
        · exact hall.out j b h1 hb
        · rw [hrk] at hb
          simp at hb
          subst hb
          exact h
      obtain ⟨t, u⟩ := r
      dsimp only at x0 x1 hB2 hZ2 hcall
      have y0 := hZ2.cell 0
      simp at y0
      have y1 := hZ.out.cell 0
      simp at y1
      have HZ2 : Hid (Blk (wr.alloc (.cells #[.int .i64 t, .int .i64 u] 36)) w.heap.size 26 #[.int .i64 nx, .slice (some ⟨b, off, none⟩) n cap]) := hZ2
      obtain ⟨G, hG⟩ : ∃ G, plOk nx ⟨t, u⟩ = G := ⟨_, rfl⟩
      rw [hG] at hcall hmem hnx
      clear hrk hall hG hZ2 hZ
      cases G
      · have hR0 : R = false := hmem.out rfl
        subst hR0
        go_wp2_with fail
        refine hcall.mono ?_
        rintro e w2 ⟨rfl, b2⟩
        clear hcall x0 x1
        go_wp2
        go_ret
        exact ⟨rfl, hB2.out.trans (b2.mono hB2.out.size)⟩
      · have hA : Hid _ := hnx.out rfl
        go_wp2_with fail
        refine hcall.mono ?_
        rintro e w2 ⟨rfl, b2⟩
        clear hcall x0 x1
        go_wp2
        go_roundw
        case rel => exact ⟨k + 1, by omega, by go_num, hA, hB2.out.trans (b2.mono hB2.out.size), HZ2.out.keep b2⟩
        case measure => simp [intOf]; omega
    · have hki : ¬ (k : Int) < (n : Int) := by omega
      have hall1 : ps.all (plOk nx) = true := by
        rw [List.all_eq_true]
        intro f hf
        obtain ⟨j, hj⟩ := List.mem_iff_getElem?.1 hf
        exact hall.out j f (by have := (List.getElem?_eq_some_iff.1 hj).1; have := hln.out; omega) hj
      have hcall := ascP_any a n cap ps wr hln.out (by omega) (HR.out.keep hB.out).rd
      have hRa : Hid (ascN (inosP ps) = R) := by show _ = _; rw [← HRR.out, hall1]; rfl
      rw [hRa.out] at hcall
      have y1 := hZ.out.cell 1
      simp at y1
      clear hall1
      go_wp2_with fail
      refine hcall.mono ?_
      rintro e w2 ⟨rfl, b2⟩
      clear hcall
      go_wp2
      go_ret
      exact ⟨rfl, hB.out.trans (b2.mono hB.out.size)⟩
/-- Where the inode of this number is: its first place's. -/
def adrOf (ps : List PlD) (x : Int) : Int := match ps.find? fun p => decide (p.ino = x) with
  | some p => p.adr
  | none => -1
theorem adrOf_hit {ps : List PlD} {x : Int} {k : Nat} {r : PlD} (h : ps[k]? = some r) (hx : r.ino = x) (hb : ∀ (j : Nat) (b : PlD), j < k → ps[j]? = some b → b.ino ≠ x) : adrOf ps x = r.adr := by
  unfold adrOf
  have : ps.find? (fun p => decide (p.ino = x)) = some r := by
    rw [List.find?_eq_some_iff_getElem]
    have hk := (List.getElem?_eq_some_iff.1 h).1
    have hr := (List.getElem?_eq_some_iff.1 h).2
    refine ⟨by simp [hx], k, hk, hr, fun j hj => ?_⟩
    have := hb j ps[j] hj (List.getElem?_eq_getElem (by omega))
    simpa using this
  rw [this]
theorem adrOf_no {ps : List PlD} {x : Int} (hb : ∀ (j : Nat) (b : PlD), ps[j]? = some b → b.ino ≠ x) : adrOf ps x = -1 := by
  unfold adrOf
  have : ps.find? (fun p => decide (p.ino = x)) = none := by
    rw [List.find?_eq_none]
    intro b hm
    obtain ⟨j, hj⟩ := List.mem_iff_getElem?.1 hm
    have := hb j b hj
    simpa using this
  rw [this]
end Go.Proofs.Ytjaicciilehlnaa

