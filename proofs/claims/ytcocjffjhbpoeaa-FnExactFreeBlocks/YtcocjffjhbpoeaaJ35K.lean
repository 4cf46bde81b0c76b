/-
  Joined: DvF, DvP.
-/
import Derived.Test.YtcocjffjhbpoeaaJ13K
import Derived.Test.YtcocjffjhbpoeaaJ34K
import Derived.Test.YtcocjffjhbpoeaaJ32K
import Derived.Test.YtcocjffjhbpoeaaJ33K
import Derived.Deep.MidRow
import Derived.Deep.WholeRow
namespace Go.Proofs.Ytcocjffjhbpoeaa
section
open Go.RowKit
/-- A fault that is right. -/
def ftOk (f : FtD) : Bool := (decide (0 ≤ f.tm) && decide (f.tm ≤ 100000)) && (decide (1 ≤ f.kd) && decide (f.kd ≤ 2)) && (decide (0 ≤ f.kp) && decide (f.kp ≤ 400))
/-- The i-th one is right beside the one ahead of it. -/
def ftAt (fs : List FtD) (i : Nat) : Bool := ftOk (fs.getD i ftZ) && (decide (i = 0) || decide ((fs.getD (i - 1) ftZ).tm < (fs.getD i ftZ).tm))
def faultsB (fs : List FtD) : Bool := (List.range fs.length).all (ftAt fs) && decide (fs.length ≤ 20)
theorem ftAt_at {fs : List FtD} {k : Nat} {r : FtD} (h : fs[k]? = some r) : ftAt fs k = (ftOk r && (decide (k = 0) || decide ((fs.getD (k - 1) ftZ).tm < r.tm))) := by
  unfold ftAt
  have e : fs.getD k ftZ = r := by simp [List.getD_eq_getElem?_getD, h]
  rw [e]
theorem faultsB_asc (fs : List FtD) : faultsB fs = (decide (fs.length ≤ 20) && (fs.all ftOk && ascN (tmsF fs))) := by
  rw [Bool.eq_iff_iff]
  unfold faultsB ascN
  rw [tmsF_length]
  simp only [Bool.and_eq_true, List.all_eq_true, List.mem_range, decide_eq_true_eq]
  have hg : ∀ i : Nat, (tmsF fs).getD i 0 = (fs.getD i ftZ).tm := fun i => by
    cases h : fs[i]? with
    | none => simp [tmsF, List.getD_eq_getElem?_getD, h, ftZ]
    | some r => simp [tmsF, List.getD_eq_getElem?_getD, h]
  constructor
  · rintro ⟨h1, h2⟩
    refine ⟨h2, fun f hf => ?_, fun i hi => ?_⟩
    · obtain ⟨i, hi⟩ := List.mem_iff_getElem?.1 hf
      have := h1 i (List.getElem?_eq_some_iff.1 hi).1
      rw [ftAt_at hi] at this
      simp only [Bool.and_eq_true] at this
      exact this.1
    · have := h1 i hi
      unfold ftAt at this
      simp only [Bool.and_eq_true] at this
      rw [hg, hg]
      exact this.2
  · rintro ⟨h2, h1, h3⟩
    refine ⟨fun i hi => ?_, h2⟩
    obtain ⟨r, hr⟩ : ∃ r, fs[i]? = some r := ⟨_, List.getElem?_eq_getElem hi⟩
    have := h3 i hi
    rw [hg, hg] at this
    unfold ftAt
    simp only [Bool.and_eq_true]
    refine ⟨?_, this⟩
    have e : fs.getD i ftZ = r := by simp [List.getD_eq_getElem?_getD, hr]
    rw [e]
    exact h1 r (List.mem_of_getElem? hr)
set_option maxHeartbeats 1600000 in
theorem opsOkI (x : Int) (w : World) :
    Calls Try.prog 70 #[.int .i64 x] w fun e w' => e = .returned (.bool (decide (0 ≤ x) && decide (x ≤ 100000))) ∧ w' = w := by
  go_enter Try.func70, Try.ntmps70
  by_cases h1 : 0 ≤ x
  · by_cases h2 : x ≤ 100000
    · go_wp2
      go_ret
      exact ⟨by simp [h1, h2], rfl⟩
    · go_wp2
      go_ret
      exact ⟨by simp [h2], rfl⟩
  · go_wp2
    go_ret
    exact ⟨by simp; omega, rfl⟩
set_option maxHeartbeats 3200000 in
theorem faultOkI (t u v : Int) (w : World) :
    Calls Try.prog 95 #[.agg #[.int .i64 t, .int .i64 u, .int .i64 v]] w fun e w' => e = .returned (.bool (ftOk ⟨t, u, v⟩)) ∧ Below w.heap.size w w' := by
  have B0 : Below w.heap.size w (w.alloc (.cells #[.int .i64 t, .int .i64 u, .int .i64 v] 121)) := (Below.refl _ w).alloc (Nat.le_refl _) _
  have hcall := opsOkI t (w.alloc (.cells #[.int .i64 t, .int .i64 u, .int .i64 v] 121))
  have hfo : ftOk ⟨t, u, v⟩ = ((decide (0 ≤ t) && decide (t ≤ 100000)) && (decide (u = 1) || decide (u = 2)) && (decide (0 ≤ v) && decide (v ≤ 400))) := by
    have : (decide (1 ≤ u) && decide (u ≤ 2)) = (decide (u = 1) || decide (u = 2)) := by
      rw [Bool.eq_iff_iff]; simp; omega
    unfold ftOk
    rw [this]
  rw [hfo]
  have HB : Hid _ := B0
  clear hfo B0
  generalize (decide (0 ≤ t) && decide (t ≤ 100000)) = p at hcall
  go_enter Try.func95, Try.ntmps95
  go_wp2_with fail
  refine hcall.mono ?_
  rintro e w1 ⟨rfl, hw⟩
  obtain rfl := hw.symm
  clear hcall
  cases p
  · go_wp2
    go_ret
    exact ⟨rfl, HB.out⟩
  · by_cases h1 : u = 1
    · subst h1
      by_cases h3 : 0 ≤ v
      · by_cases h4 : v ≤ 400
        · go_wp2
          go_ret
          exact ⟨by simp, HB.out⟩
        · go_wp2
          go_ret
          exact ⟨by simp, HB.out⟩
      · go_wp2
        go_ret
        exact ⟨by simp; omega, HB.out⟩
    · by_cases h2 : u = 2
      · subst h2
        by_cases h3 : 0 ≤ v
        · by_cases h4 : v ≤ 400
          · go_wp2
            go_ret
            exact ⟨by simp, HB.out⟩
          · go_wp2
            go_ret
            exact ⟨by simp, HB.out⟩
        · go_wp2
          go_ret
          exact ⟨by simp; omega, HB.out⟩
      · have e1 : (u == 1) = false := by simpa using h1
        have e2 : (u == 2) = false := by simpa using h2
        go_wp2
        go_ret
        exact ⟨by simp [h1, h2], HB.out⟩
set_option maxRecDepth 100000 in
set_option maxHeartbeats 4000000 in
theorem faultsOkI (a : Option Addr) (n cap : Nat) (fs : List FtD) (w : World) (hf : FR w a n fs) :
    Calls Try.prog 71 #[.slice a n cap] w fun e w' => e = .returned (.bool (faultsB fs)) ∧ Below w.heap.size w w' := by
  rw [faultsB_asc, hf.len]
  have hs := hf.tot
  by_cases h20 : n ≤ 20
  · have hd : ¬ (20 : Int) < (n : Int) := by omega
    rw [decide_eq_true h20, Bool.true_and]
    have HR : Hid (FR w a n fs) := hf
    have hln : Hid (fs.length = n) := hf.len
    obtain ⟨R, hR⟩ : ∃ R, (fs.all ftOk && ascN (tmsF fs)) = R := ⟨_, rfl⟩
    have HRR : Hid _ := hR
    rw [hR]
    clear hf hR
    go_enter Try.func71, Try.ntmps71
    go_wp2
    go_loopw [10] (fun i wr => ∃ (k : Nat), k ≤ n ∧ i = .int .i64 k ∧ Hid (∀ (j : Nat) (b : FtD), j < k → fs[j]? = some b → ftOk b = true) ∧ Hid (Below w.heap.size w wr)) (fun i _ => n - (intOf i).toNat)
    case atStart => exact ⟨0, Nat.zero_le _, rfl, fun j b hj => by omega, Below.refl _ _⟩
    case round =>
      obtain ⟨k, hk, rfl, hall, hB⟩ := hrel
      by_cases hkn : k < n
      · have hki : (k : Int) < (n : Int) := by omega
        obtain ⟨b, off, r, rfl, hlt, hrk, x0, x1, x2⟩ := (HR.out.keep hB.out).some hkn
        have hB2 : Hid (Below w.heap.size w (wr.alloc (.cells #[.int .i64 r.tm, .int .i64 r.kd, .int .i64 r.kp] 121))) := hB.out.alloc hB.out.size _
        have hcall := faultOkI r.tm r.kd r.kp (wr.alloc (.cells #[.int .i64 r.tm, .int .i64 r.kd, .int .i64 r.kp] 121))
        have hmem : Hid (ftOk r = false → R = false) := fun h => by
          rw [← HRR.out]
          have : fs.all ftOk = false := by
            rw [List.all_eq_false]
            exact ⟨r, List.mem_of_getElem? hrk, by simp [h]⟩
          rw [this]; rfl
        have hnx : Hid (ftOk r = true → ∀ (j : Nat) (b : FtD), j < k + 1 → fs[j]? = some b → ftOk b = true) := fun h j b hj hb => by
          rcases (show j < k ∨ j = k by omega) with h1 | rfl
          · exact hall.out j b h1 hb
          · rw [hrk] at hb
            simp at hb
            subst hb
            exact h
        obtain ⟨t, u, v⟩ := r
        dsimp only at x0 x1 x2 hB2 hcall
        obtain ⟨G, hG⟩ : ∃ G, ftOk ⟨t, u, v⟩ = G := ⟨_, rfl⟩
        rw [hG] at hcall hmem hnx
        clear hrk hall hG
        cases G
        · have hR0 : R = false := hmem.out rfl
          subst hR0
          go_wp2_with fail
          refine hcall.mono ?_
          rintro e w2 ⟨rfl, b2⟩
          clear hcall x0 x1 x2
          go_wp2
          go_ret
          exact ⟨rfl, hB2.out.trans (b2.mono hB2.out.size)⟩
        · have hA : Hid _ := hnx.out rfl
          go_wp2_with fail
          refine hcall.mono ?_
          rintro e w2 ⟨rfl, b2⟩
          clear hcall x0 x1 x2
          go_wp2
          go_roundw
          case rel => exact ⟨k + 1, by omega, by go_num, hA, hB2.out.trans (b2.mono hB2.out.size)⟩
          case measure => simp [intOf]; omega
      · have hki : ¬ (k : Int) < (n : Int) := by omega
        have hall1 : fs.all ftOk = true := by
          rw [List.all_eq_true]
          intro f hf
          obtain ⟨j, hj⟩ := List.mem_iff_getElem?.1 hf
          exact hall.out j f (by have := (List.getElem?_eq_some_iff.1 hj).1; have := hln.out; omega) hj
        have hcall := ascF_any a n cap fs wr hln.out (by omega) (HR.out.keep hB.out).rd
        have hRa : Hid (ascN (tmsF fs) = R) := by show _ = _; rw [← HRR.out, hall1]; rfl
        rw [hRa.out] at hcall
        clear hall1
        go_wp2_with fail
        refine hcall.mono ?_
        rintro e w2 ⟨rfl, b2⟩
        clear hcall
        go_wp2
        go_ret
        exact ⟨rfl, hB.out.trans (b2.mono hB.out.size)⟩
  · have hd : (20 : Int) < (n : Int) := by omega
    rw [decide_eq_false h20, Bool.false_and]
    go_enter Try.func71, Try.ntmps71
    go_wp2
    go_ret
    exact ⟨rfl, Below.refl _ _⟩
end

section
open Go.RowKit
/-- What DevOk asks. -/
noncomputable def devB (ds : List BkD) (ops : Int) (fs : List FtD) : Bool := chipOkB ds && (decide (0 ≤ ops) && decide (ops ≤ 100000)) && faultsB fs
set_option maxRecDepth 100000 in
set_option maxHeartbeats 4000000 in
theorem devOkI (a : Option Addr) (n cap : Nat) (bs : List BkR) (ops : Int) (fa : Option Addr) (m fc : Nat) (fs : List FtD) (down : Bool) (w : World) (ht : CR w a n bs) (hf : FR w fa m fs) :
    Calls Try.prog 44 #[.agg #[.slice a n cap, .int .i64 ops, .slice fa m fc, .bool down]] w fun e w' => e = .returned (.bool (devB (bs.map BkR.D) ops fs)) ∧ Below w.heap.size w w' := by
  have B0 : Below w.heap.size w (w.alloc (.cells #[.slice a n cap, .int .i64 ops, .slice fa m fc, .bool down] 37)) := (Below.refl _ w).alloc (Nat.le_refl _) _
  have z0 := Blk.new w 37 #[.slice a n cap, .int .i64 ops, .slice fa m fc, .bool down]
  have hcall := chipOkI a n cap bs (w.alloc (.cells #[.slice a n cap, .int .i64 ops, .slice fa m fc, .bool down] 37)) (ht.keep B0)
  unfold devB
  have hc2 := fun W : World => opsOkI ops W
  have hc3 := fun (W : World) (h : FR W fa m fs) => faultsOkI fa m fc fs W h
  generalize chipOkB (bs.map BkR.D) = p at hcall ⊢
  generalize (decide (0 ≤ ops) && decide (ops ≤ 100000)) = q at hc2 ⊢
  generalize faultsB fs = r at hc3 ⊢
  have HF : Hid _ := hf.keep B0
  have HB : Hid _ := B0
  clear ht hf B0
  go_enter Try.func44, Try.ntmps44
  go_wp2_with fail
  refine hcall.mono ?_
  rintro e w1 ⟨rfl, hb1⟩
  clear hcall
  have z1 := z0.keep hb1
  have B1 := HB.out.trans (hb1.mono HB.out.size)
  cases p
  · go_wp2
    go_ret
    exact ⟨rfl, B1⟩
  · have y1 := z1.cell 1
    have y2 := z1.cell 2
    simp at y1 y2
    have hc2 := hc2 w1
    have hc3 := hc3 w1 (HF.out.keep hb1)
    clear z0 z1 hb1
    go_wp2_with fail
    refine hc2.mono ?_
    rintro e w2 ⟨rfl, hw⟩
    obtain rfl := hw.symm
    clear hc2
    cases q
    · go_wp2
      go_ret
      exact ⟨rfl, B1⟩
    · go_wp2_with fail
      refine hc3.mono ?_
      rintro e w2 ⟨rfl, hb2⟩
      clear hc3 y1 y2
      go_wp2
      go_ret
      exact ⟨by simp, B1.trans (hb2.mono B1.size)⟩
end
end Go.Proofs.Ytcocjffjhbpoeaa
