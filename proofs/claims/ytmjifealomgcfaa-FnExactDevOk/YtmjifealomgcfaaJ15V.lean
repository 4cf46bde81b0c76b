/-
  Joined: DvF, DvA.
-/
import Derived.Test.YtmjifealomgcfaaJ11V
import Derived.Test.YtmjifealomgcfaaJ14V
namespace Go.Proofs.Ytmjifealomgcfaa
section
open Go.RowKit
/-- A fault that is right. -/
def ftOk (f : FtD) : Bool := (decide (0 ≤ f.tm) && decide (f.tm ≤ 100000)) && (decide (1 ≤ f.kd) && decide (f.kd ≤ 2)) && (decide (0 ≤ f.kp) && decide (f.kp ≤ 400))
/-- The i-th one is right beside the one ahead of it. -/
def ftAt (fs : List FtD) (i : Nat) : Bool := ftOk (fs.getD i ftZ) && (decide (i = 0) || decide ((fs.getD (i - 1) ftZ).tm < (fs.getD i ftZ).tm))
def faultsB (fs : List FtD) : Bool := (List.range fs.length).all (ftAt fs) && decide (fs.length ≤ 20)
theorem ftAt_at {fs : List FtD} {k : Nat} {r : FtD} (h : fs[k]? = some r) : ftAt fs k = (ftOk r && (decide (k = 0) || decide ((fs.getD (k - 1) ftZ).tm < r.tm))) := by
  unfold ftAt
  have e : fs.getD k ftZ = r := by simp [List.getD_eq_getElem?_getD, h]
  rw [e]
theorem faultsB_asc (fs : List FtD) : faultsB fs = (decide (fs.length ≤ 20) && (fs.all ftOk && ascN (tmsF fs))) := by
  rw [Bool.eq_iff_iff]
  unfold faultsB ascN
  rw [tmsF_length]
  simp only [Bool.and_eq_true, List.all_eq_true, List.mem_range, decide_eq_true_eq]
  have hg : ∀ i : Nat, (tmsF fs).getD i 0 = (fs.getD i ftZ).tm := fun i => by
    cases h : fs[i]? with
    | none => simp [tmsF, List.getD_eq_getElem?_getD, h, ftZ]
    | some r => simp [tmsF, List.getD_eq_getElem?_getD, h]
  constructor
  · rintro ⟨h1, h2⟩
    refine ⟨h2, fun f hf => ?_, fun i hi => ?_⟩
    · obtain ⟨i, hi⟩ := List.mem_iff_getElem?.1 hf
      have := h1 i (List.getElem?_eq_some_iff.1 hi).1
      rw [ftAt_at hi] at this
      simp only [Bool.and_eq_true] at this
      exact this.1
    · have := h1 i hi
      unfold ftAt at this
      simp only [Bool.and_eq_true] at this
      rw [hg, hg]
      exact this.2
  · rintro ⟨h2, h1, h3⟩
    refine ⟨fun i hi => ?_, h2⟩
    obtain ⟨r, hr⟩ : ∃ r, fs[i]? = some r := ⟨_, List.getElem?_eq_getElem hi⟩
    have := h3 i hi
    rw [hg, hg] at this
    unfold ftAt
    simp only [Bool.and_eq_true]
    refine ⟨?_, this⟩
    have e : fs.getD i ftZ = r := by simp [List.getD_eq_getElem?_getD, hr]
    rw [e]
    exact h1 r (List.mem_of_getElem? hr)
set_option maxHeartbeats 1600000 in
theorem opsOkI (x : Int) (w : World) :
    Calls Try.prog 39 #[.int .i64 x] w fun e w' => e = .returned (.bool (decide (0 ≤ x) && decide (x ≤ 100000))) ∧ w' = w := by
  go_enter Try.func39, Try.ntmps39
  by_cases h1 : 0 ≤ x
  · by_cases h2 : x ≤ 100000
    · go_wp2
      go_ret
      exact ⟨by simp [h1, h2], rfl⟩
    · go_wp2
      go_ret
      exact ⟨by simp [h2], rfl⟩
  · go_wp2
    go_ret
    exact ⟨by simp; omega, rfl⟩
set_option maxHeartbeats 3200000 in
theorem faultOkI (t u v : Int) (w : World) :
    Calls Try.prog 53 #[.agg #[.int .i64 t, .int .i64 u, .int .i64 v]] w fun e w' => e = .returned (.bool (ftOk ⟨t, u, v⟩)) ∧ Below w.heap.size w w' := by
  have B0 : Below w.heap.size w (w.alloc (.cells #[.int .i64 t, .int .i64 u, .int .i64 v] 47)) := (Below.refl _ w).alloc (Nat.le_refl _) _
  have hcall := opsOkI t (w.alloc (.cells #[.int .i64 t, .int .i64 u, .int .i64 v] 47))
  have hfo : ftOk ⟨t, u, v⟩ = ((decide (0 ≤ t) && decide (t ≤ 100000)) && (decide (u = 1) || decide (u = 2)) && (decide (0 ≤ v) && decide (v ≤ 400))) := by
    have : (decide (1 ≤ u) && decide (u ≤ 2)) = (decide (u = 1) || decide (u = 2)) := by
      rw [Bool.eq_iff_iff]; simp; omega
    unfold ftOk
    rw [this]
  rw [hfo]
  have HB : Hid _ := B0
  clear hfo B0
  generalize (decide (0 ≤ t) && decide (t ≤ 100000)) = p at hcall
  go_enter Try.func53, Try.ntmps53
  go_wp2_with fail
  refine hcall.mono ?_
  rintro e w1 ⟨rfl, hw⟩
  obtain rfl := hw.symm
  clear hcall
  cases p
  · go_wp2
    go_ret
    exact ⟨rfl, HB.out⟩
  · by_cases h1 : u = 1
    · subst h1
      by_cases h3 : 0 ≤ v
      · by_cases h4 : v ≤ 400
        · go_wp2
          go_ret
          exact ⟨by simp, HB.out⟩
        · go_wp2
          go_ret
          exact ⟨by simp, HB.out⟩
      · go_wp2
        go_ret
        exact ⟨by simp; omega, HB.out⟩
    · by_cases h2 : u = 2
      · subst h2
        by_cases h3 : 0 ≤ v
        · by_cases h4 : v ≤ 400
          · go_wp2
            go_ret
            exact ⟨by simp, HB.out⟩
          · go_wp2
            go_ret
            exact ⟨by simp, HB.out⟩
        · go_wp2
          go_ret
          exact ⟨by simp; omega, HB.out⟩
      · have e1 : (u == 1) = false := by simpa using h1
        have e2 : (u == 2) = false := by simpa using h2
        go_wp2
        go_ret
        exact ⟨by simp [h1, h2], HB.out⟩
set_option maxRecDepth 100000 in
set_option maxHeartbeats 4000000 in
theorem faultsOkI (a : Option Addr) (n cap : Nat) (fs : List FtD) (w : World) (hf : FR w a n fs) :
    Calls Try.prog 40 #[.slice a n cap] w fun e w' => e = .returned (.bool (faultsB fs)) ∧ Below w.heap.size w w' := by
  rw [faultsB_asc, hf.len]
  have hs := hf.tot
  by_cases h20 : n ≤ 20
  · have hd : ¬ (20 : Int) < (n : Int) := by omega
    rw [decide_eq_true h20, Bool.true_and]
    have HR : Hid (FR w a n fs) := hf
    have hln : Hid (fs.length = n) := hf.len
    obtain ⟨R, hR⟩ : ∃ R, (fs.all ftOk && ascN (tmsF fs)) = R := ⟨_, rfl⟩
    have HRR : Hid _ := hR
    rw [hR]
    clear hf hR
    go_enter Try.func40, Try.ntmps40
    go_wp2
    go_loopw [10] (fun i wr => ∃ (k : Nat), k ≤ n ∧ i = .int .i64 k ∧ Hid (∀ (j : Nat) (b : FtD), j < k → fs[j]? = some b → ftOk b = true) ∧ Hid (Below w.heap.size w wr)) (fun i _ => n - (intOf i).toNat)
    case atStart => exact ⟨0, Nat.zero_le _, rfl, fun j b hj => by omega, Below.refl _ _⟩
    case round =>
      obtain ⟨k, hk, rfl, hall, hB⟩ := hrel
      by_cases hkn : k < n
      · have hki : (k : Int) < (n : Int) := by omega
        obtain ⟨b, off, r, rfl, hlt, hrk, x0, x1, x2⟩ := (HR.out.keep hB.out).some hkn
        have hB2 : Hid (Below w.heap.size w (wr.alloc (.cells #[.int .i64 r.tm, .int .i64 r.kd, .int .i64 r.kp] 47))) := hB.out.alloc hB.out.size _
        have hcall := faultOkI r.tm r.kd r.kp (wr.alloc (.cells #[.int .i64 r.tm, .int .i64 r.kd, .int .i64 r.kp] 47))
        have hmem : Hid (ftOk r = false → R = false) := fun h => by
          rw [← HRR.out]
          have : fs.all ftOk = false := by
            rw [List.all_eq_false]
            exact ⟨r, List.mem_of_getElem? hrk, by simp [h]⟩
          rw [this]; rfl
        have hnx : Hid (ftOk r = true → ∀ (j : Nat) (b : FtD), j < k + 1 → fs[j]? = some b → ftOk b = true) := fun h j b hj hb => by
          rcases (show j < k ∨ j = k by omega) with h1 | rfl
          · exact hall.out j b h1 hb
          · rw [hrk] at hb
            simp at hb
            subst hb
            exact h
        obtain ⟨t, u, v⟩ := r
        dsimp only at x0 x1 x2 hB2 hcall
        obtain ⟨G, hG⟩ : ∃ G, ftOk ⟨t, u, v⟩ = G := ⟨_, rfl⟩
        rw [hG] at hcall hmem hnx
        clear hrk hall hG
        cases G
        · have hR0 : R = false := hmem.out rfl
          subst hR0
          go_wp2_with fail
          refine hcall.mono ?_
          rintro e w2 ⟨rfl, b2⟩
          clear hcall x0 x1 x2
          go_wp2
          go_ret
          exact ⟨rfl, hB2.out.trans (b2.mono hB2.out.size)⟩
        · have hA : Hid _ := hnx.out rfl
          go_wp2_with fail
          refine hcall.mono ?_
          rintro e w2 ⟨rfl, b2⟩
          clear hcall x0 x1 x2
          go_wp2
          go_roundw
          case rel => exact ⟨k + 1, by omega, by go_num, hA, hB2.out.trans (b2.mono hB2.out.size)⟩
          case measure => simp [intOf]; omega
      · have hki : ¬ (k : Int) < (n : Int) := by omega
        have hall1 : fs.all ftOk = true := by
          rw [List.all_eq_true]
          intro f hf
          obtain ⟨j, hj⟩ := List.mem_iff_getElem?.1 hf
          exact hall.out j f (by have := (List.getElem?_eq_some_iff.1 hj).1; have := hln.out; omega) hj
        have hcall := ascF_any a n cap fs wr hln.out (by omega) (HR.out.keep hB.out).rd
        have hRa : Hid (ascN (tmsF fs) = R) := by show _ = _; rw [← HRR.out, hall1]; rfl
        rw [hRa.out] at hcall
        clear hall1
        go_wp2_with fail
        refine hcall.mono ?_
        rintro e w2 ⟨rfl, b2⟩
        clear hcall
        go_wp2
        go_ret
        exact ⟨rfl, hB.out.trans (b2.mono hB.out.size)⟩
  · have hd : (20 : Int) < (n : Int) := by omega
    rw [decide_eq_false h20, Bool.false_and]
    go_enter Try.func40, Try.ntmps40
    go_wp2
    go_ret
    exact ⟨rfl, Below.refl _ _⟩
end

section
open Go.RowKit
/-- The fault that comes. -/
def faD (ops : Int) (fs : List FtD) : Option FtD := fs.find? (fun f => f.tm == ops)
theorem faD_hit {fs : List FtD} {k : Nat} {r : FtD} {ops : Int} (h : fs[k]? = some r) (he : r.tm = ops) (hn : ∀ (j : Nat) (b : FtD), j < k → fs[j]? = some b → b.tm ≠ ops) : faD ops fs = some r := by
  induction fs generalizing k with
  | nil => simp at h
  | cons f fs ih =>
    cases k with
    | zero => simp at h; subst h; simp [faD, he]
    | succ k =>
      have h0 := hn 0 f (by omega) rfl
      have h1 : faD ops (f :: fs) = faD ops fs := by simp [faD, h0]
      rw [h1]
      exact ih (by simpa using h) (fun j b hj hb => hn (j + 1) b (by omega) (by simpa using hb))
theorem faD_none {fs : List FtD} {ops : Int} (hn : ∀ (j : Nat) (b : FtD), j < fs.length → fs[j]? = some b → b.tm ≠ ops) : faD ops fs = none := by
  unfold faD
  rw [List.find?_eq_none]
  intro f hf
  obtain ⟨j, hj⟩ := List.mem_iff_getElem?.1 hf
  have := hn j f (List.getElem?_eq_some_iff.1 hj).1 hj
  simpa using this
/-- What was answered. -/
def FaA (w : World) (o : Option FtD) (e : Ending) (w' : World) : Prop := e = .returned (.tuple #[.agg #[.int .i64 (o.getD ftZ).tm, .int .i64 (o.getD ftZ).kd, .int .i64 (o.getD ftZ).kp], .bool o.isSome]) ∧ Below w.heap.size w w'
set_option maxRecDepth 100000 in
set_option maxHeartbeats 4000000 in
theorem faultOfI (a : Option Addr) (n cap : Nat) (fs : List FtD) (ops : Int) (w : World) (hf : FR w a n fs) :
    Calls Try.prog 41 #[.slice a n cap, .int .i64 ops] w (FaA w (faD ops fs)) := by
  have B0 : Below w.heap.size w (w.alloc (.cells #[.int .i64 0, .int .i64 0, .int .i64 0] 47)) := (Below.refl _ w).alloc (Nat.le_refl _) _
  have z0 := Blk.new w 47 #[.int .i64 0, .int .i64 0, .int .i64 0]
  have hs := hf.tot
  have hln : Hid (fs.length = n) := hf.len
  have HR : Hid _ := hf.keep B0
  have HB : Hid _ := B0
  generalize hGP : FaA w (faD ops fs) = P
  have HGP : Hid _ := hGP
  clear hf B0 hGP
  obtain ⟨H, hH⟩ : ∃ H, w.heap.size = H := ⟨_, rfl⟩
  have HH : Hid _ := hH
  rw [hH] at z0
  go_enter Try.func41, Try.ntmps41
  go_wp2
  obtain ⟨W0, hW0⟩ : ∃ W, w.alloc (.cells #[.int .i64 0, .int .i64 0, .int .i64 0] 47) = W := ⟨_, rfl⟩
  rw [hW0] at HB HR z0 ⊢
  have HZ : Hid _ := z0
  clear hW0 z0
  try rw [hH]
  clear hH
  go_loopw [10] (fun i wr => ∃ (k : Nat), k ≤ n ∧ i = .int .i64 k ∧ Hid (∀ (j : Nat) (b : FtD), j < k → fs[j]? = some b → b.tm ≠ ops) ∧ Hid (Below W0.heap.size W0 wr)) (fun i _ => n - (intOf i).toNat)
  case atStart => exact ⟨0, Nat.zero_le _, rfl, fun j b hj => by omega, Below.refl _ _⟩
  case round =>
    obtain ⟨k, hk, rfl, hall, hB⟩ := hrel
    by_cases hkn : k < n
    · have hki : (k : Int) < (n : Int) := by omega
      obtain ⟨b, off, r, rfl, hlt, hrk, x0, x1, x2⟩ := (HR.out.keep hB.out).some hkn
      have hB2 : Hid (Below W0.heap.size W0 (wr.alloc (.cells #[.int .i64 r.tm, .int .i64 r.kd, .int .i64 r.kp] 47))) := hB.out.alloc hB.out.size _
      by_cases he : r.tm = ops
      · have HF : Hid (faD ops fs = some r) := faD_hit hrk he hall.out
        have zr := Blk.keep HZ.out hB2.out
        have e0 : (r.tm == ops) = true := by simpa using he
        have r0 := zr.cell 0
        have r1 := zr.cell 1
        have r2 := zr.cell 2
        have f0 := zr.frozen 0
        have f1 := zr.frozen 1
        have f2 := zr.frozen 2
        have zf := ((zr.set 0 (.int .i64 r.tm)).set 1 (.int .i64 r.kd)).set 2 (.int .i64 r.kp)
        have d0 := zf.cell 0
        have d1 := zf.cell 1
        have d2 := zf.cell 2
        simp at r0 r1 r2 d0 d1 d2
        clear hall hrk he zr zf
        go_wp2
        refine bodyPost_ret (v := .tuple #[.agg #[.int .i64 r.tm, .int .i64 r.kd, .int .i64 r.kp], .bool true]) (by simp [results, Try.f41, go_sem, d0, d1, d2]) rfl ?_
        rw [← HGP.out, HF.out]
        have hH := HH.out
        have s : ∀ (W : World) (i : Nat) (v : Value), Below w.heap.size w W → Below w.heap.size w (W.setCell ⟨H, i, none⟩ v) := fun W i v hb => hb.setCell (p := ⟨H, i, none⟩) (by simp only; omega) v
        exact ⟨rfl, s _ _ _ (s _ _ _ (s _ _ _ (HB.out.trans (hB2.out.mono HB.out.size))))⟩
      · have e0 : (r.tm == ops) = false := by simpa using he
        have hnx : Hid (∀ (j : Nat) (b : FtD), j < k + 1 → fs[j]? = some b → b.tm ≠ ops) := fun j b hj hb => by
          rcases (show j < k ∨ j = k by omega) with h1 | rfl
          · exact hall.out j b h1 hb
          · rw [hrk] at hb
            simp at hb
            subst hb
            exact he
        clear hall hrk he
        go_wp2
        go_roundw
        case rel => exact ⟨k + 1, by omega, by go_num, hnx, hB2⟩
        case measure => simp [intOf]; omega
    · have hki : ¬ (k : Int) < (n : Int) := by omega
      have HF : Hid (faD ops fs = none) := faD_none fun j b hj hb => hall.out j b (by have := hln.out; omega) hb
      have zr := Blk.keep HZ.out hB.out
      have r0 := zr.cell 0
      have r1 := zr.cell 1
      have r2 := zr.cell 2
      have f0 := zr.frozen 0
      have f1 := zr.frozen 1
      have f2 := zr.frozen 2
      have zf := ((zr.set 0 (.int .i64 0)).set 1 (.int .i64 0)).set 2 (.int .i64 0)
      have d0 := zf.cell 0
      have d1 := zf.cell 1
      have d2 := zf.cell 2
      simp at r0 r1 r2 d0 d1 d2
      clear zr zf
      go_wp2
      refine bodyPost_ret (v := .tuple #[.agg #[.int .i64 0, .int .i64 0, .int .i64 0], .bool false]) (by simp [results, Try.f41, go_sem, d0, d1, d2]) rfl ?_
      rw [← HGP.out, HF.out]
      have hH := HH.out
      have s : ∀ (W : World) (i : Nat) (v : Value), Below w.heap.size w W → Below w.heap.size w (W.setCell ⟨H, i, none⟩ v) := fun W i v hb => hb.setCell (p := ⟨H, i, none⟩) (by simp only; omega) v
      exact ⟨rfl, s _ _ _ (s _ _ _ (s _ _ _ (HB.out.trans (hB.out.mono HB.out.size))))⟩
set_option maxRecDepth 100000 in
set_option maxHeartbeats 4000000 in
theorem faultAtI (a : Option Addr) (n cap : Nat) (ops : Int) (fa : Option Addr) (m fc : Nat) (fs : List FtD) (down : Bool) (w : World) (hf : FR w fa m fs) :
    Calls Try.prog 21 #[.agg #[.slice a n cap, .int .i64 ops, .slice fa m fc, .bool down]] w (FaA w (faD ops fs)) := by
  have B0 : Below w.heap.size w ((w.alloc (.cells #[.slice a n cap, .int .i64 ops, .slice fa m fc, .bool down] 29)).alloc (.cells #[.int .i64 0, .int .i64 0, .int .i64 0] 47)) := ((Below.refl _ w).alloc (Nat.le_refl _) _).alloc (by simp) _
  have z1 := Blk.new (w.alloc (.cells #[.slice a n cap, .int .i64 ops, .slice fa m fc, .bool down] 29)) 47 #[.int .i64 0, .int .i64 0, .int .i64 0]
  simp only [World.size_alloc] at z1
  have hcall := faultOfI fa m fc fs ops ((w.alloc (.cells #[.slice a n cap, .int .i64 ops, .slice fa m fc, .bool down] 29)).alloc (.cells #[.int .i64 0, .int .i64 0, .int .i64 0] 47)) (hf.keep B0)
  have HB : Hid _ := B0
  obtain ⟨o, ho⟩ : ∃ o, faD ops fs = o := ⟨_, rfl⟩
  rw [ho] at hcall ⊢
  generalize hGP : FaA w o = P
  have HGP : Hid _ := hGP
  clear hf B0 hGP ho
  go_enter Try.func21, Try.ntmps21
  go_wp2_with fail
  refine hcall.mono ?_
  rintro e w1 ⟨rfl, hb1⟩
  have zr := z1.keep hb1
  obtain ⟨t, ht⟩ : ∃ t, (o.getD ftZ).tm = t := ⟨_, rfl⟩
  obtain ⟨u, hu⟩ : ∃ t, (o.getD ftZ).kd = t := ⟨_, rfl⟩
  obtain ⟨v, hv⟩ : ∃ t, (o.getD ftZ).kp = t := ⟨_, rfl⟩
  obtain ⟨q, hq⟩ : ∃ t, o.isSome = t := ⟨_, rfl⟩
  rw [ht, hu, hv, hq]
  have HO : Hid _ := And.intro ht (And.intro hu (And.intro hv hq))
  have r0 := zr.cell 0
  have r1 := zr.cell 1
  have r2 := zr.cell 2
  have f0 := zr.frozen 0
  have f1 := zr.frozen 1
  have f2 := zr.frozen 2
  have zf := ((zr.set 0 (.int .i64 t)).set 1 (.int .i64 u)).set 2 (.int .i64 v)
  have d0 := zf.cell 0
  have d1 := zf.cell 1
  have d2 := zf.cell 2
  simp at r0 r1 r2 d0 d1 d2
  have HB1 := HB.out.trans (hb1.mono HB.out.size)
  have HBB : Hid _ := HB1
  clear zr zf hcall z1 hb1 HB1 ht hu hv hq
  go_wp2
  refine bodyPost_ret (v := .tuple #[.agg #[.int .i64 t, .int .i64 u, .int .i64 v], .bool q]) (by simp [results, Try.f21, go_sem, d0, d1, d2]) rfl ?_
  rw [← HGP.out]
  obtain ⟨ht, hu, hv, hq⟩ := HO.out
  have s : ∀ (W : World) (i : Nat) (v : Value), Below w.heap.size w W → Below w.heap.size w (W.setCell ⟨w.heap.size + 1, i, none⟩ v) := fun W i v hb => hb.setCell (p := ⟨w.heap.size + 1, i, none⟩) (by simp only; omega) v
  exact ⟨by rw [ht, hu, hv, hq], s _ _ _ (s _ _ _ (s _ _ _ HBB.out))⟩
set_option maxRecDepth 100000 in
set_option maxHeartbeats 8000000 in
theorem faultAtS (a : Option Addr) (n cap : Nat) (ops : Int) (fa : Option Addr) (m fc : Nat) (fs : List FtD) (down : Bool) (w : World) (hf : FR w fa m fs) :
    Calls Try.prog 20 #[.agg #[.slice a n cap, .int .i64 ops, .slice fa m fc, .bool down]] w (FaA w (faD ops fs)) := by
  have B0 : Below w.heap.size w ((w.alloc (.cells #[.slice a n cap, .int .i64 ops, .slice fa m fc, .bool down] 29)).alloc (.cells #[.int .i64 0, .int .i64 0, .int .i64 0] 47)) := ((Below.refl _ w).alloc (Nat.le_refl _) _).alloc (by simp) _
  have z0 := (Blk.new w 29 #[.slice a n cap, .int .i64 ops, .slice fa m fc, .bool down]).alloc (.cells #[.int .i64 0, .int .i64 0, .int .i64 0] 47)
  have z1 := Blk.new (w.alloc (.cells #[.slice a n cap, .int .i64 ops, .slice fa m fc, .bool down] 29)) 47 #[.int .i64 0, .int .i64 0, .int .i64 0]
  simp only [World.size_alloc] at z1
  have hs := hf.tot
  have hln : Hid (fs.length = m) := hf.len
  have HR : Hid _ := hf.keep B0
  have HB : Hid _ := B0
  generalize hGP : FaA w (faD ops fs) = P
  have HGP : Hid _ := hGP
  clear hf B0 hGP
  obtain ⟨H, hH⟩ : ∃ H, w.heap.size = H := ⟨_, rfl⟩
  have HH : Hid _ := hH
  rw [hH] at z0 z1
  go_enter Try.func20, Try.ntmps20
  go_wp2
  obtain ⟨W0, hW0⟩ : ∃ W, (w.alloc (.cells #[.slice a n cap, .int .i64 ops, .slice fa m fc, .bool down] 29)).alloc (.cells #[.int .i64 0, .int .i64 0, .int .i64 0] 47) = W := ⟨_, rfl⟩
  rw [hW0] at HB HR z0 z1 ⊢
  have HZ0 : Hid _ := z0
  have HZ : Hid _ := z1
  clear hW0 z0 z1
  try rw [hH]
  clear hH
  go_loopw [4] (fun i wr => ∃ (k : Nat), k ≤ m ∧ i = .int .i64 k ∧ Hid (∀ (j : Nat) (b : FtD), j < k → fs[j]? = some b → b.tm ≠ ops) ∧ Hid (Below W0.heap.size W0 wr)) (fun i _ => m - (intOf i).toNat)
  case atStart => exact ⟨0, Nat.zero_le _, rfl, fun j b hj => by omega, Below.refl _ _⟩
  case round =>
    obtain ⟨k, hk, rfl, hall, hB⟩ := hrel
    have zd := Blk.keep HZ0.out hB.out
    have y1 := zd.cell 1
    have y2 := zd.cell 2
    simp at y1 y2
    clear zd
    by_cases hkn : k < m
    · have hki : (k : Int) < (m : Int) := by omega
      obtain ⟨b, off, r, rfl, hlt, hrk, x0, x1, x2⟩ := (HR.out.keep hB.out).some hkn
      by_cases he : r.tm = ops
      · have HF : Hid (faD ops fs = some r) := faD_hit hrk he hall.out
        have e0 : (r.tm == ops) = true := by simpa using he
        clear hall hrk he
        go_wp2
        go_quiet (fail)
        have v0 : (wr.drewN nq).cell? ⟨b, off + k * 3, none⟩ = some (.int .i64 r.tm) := x0
        have v1 : (wr.drewN nq).cell? ⟨b, off + k * 3 + 1, none⟩ = some (.int .i64 r.kd) := x1
        have v2 : (wr.drewN nq).cell? ⟨b, off + k * 3 + 2, none⟩ = some (.int .i64 r.kp) := x2
        have u2 : (wr.drewN nq).cell? ⟨H, 2, none⟩ = some (.slice (some ⟨b, off, none⟩) m fc) := y2
        have HBW : Hid (Below W0.heap.size W0 (wr.drewN nq)) := ⟨hB.out.os, hB.out.tape, hB.out.output, hB.out.size, hB.out.block⟩
        have zr := Blk.keep HZ.out HBW.out
        obtain ⟨W3, hW3⟩ : ∃ W, wr.drewN nq = W := ⟨_, rfl⟩
        rw [hW3] at zr v0 v1 v2 u2 HBW ⊢
        clear hW3 x0 x1 x2 y1 y2
        have r0 := zr.cell 0
        have r1 := zr.cell 1
        have r2 := zr.cell 2
        have f0 := zr.frozen 0
        have f1 := zr.frozen 1
        have f2 := zr.frozen 2
        have zf := ((zr.set 0 (.int .i64 r.tm)).set 1 (.int .i64 r.kd)).set 2 (.int .i64 r.kp)
        have d0 := zf.cell 0
        have d1 := zf.cell 1
        have d2 := zf.cell 2
        simp at r0 r1 r2 d0 d1 d2
        clear zr zf
        go_wp2
        refine bodyPost_ret (v := .tuple #[.agg #[.int .i64 r.tm, .int .i64 r.kd, .int .i64 r.kp], .bool true]) (by simp [results, Try.f20, go_sem, d0, d1, d2]) rfl ?_
        rw [← HGP.out, HF.out]
        have hH := HH.out
        have s : ∀ (W : World) (i : Nat) (v : Value), Below w.heap.size w W → Below w.heap.size w (W.setCell ⟨H + 1, i, none⟩ v) := fun W i v hb => hb.setCell (p := ⟨H + 1, i, none⟩) (by simp only; omega) v
        exact ⟨rfl, s _ _ _ (s _ _ _ (s _ _ _ (HB.out.trans (HBW.out.mono HB.out.size))))⟩
      · have e0 : (r.tm == ops) = false := by simpa using he
        have hnx : Hid (∀ (j : Nat) (b : FtD), j < k + 1 → fs[j]? = some b → b.tm ≠ ops) := fun j b hj hb => by
          rcases (show j < k ∨ j = k by omega) with h1 | rfl
          · exact hall.out j b h1 hb
          · rw [hrk] at hb
            simp at hb
            subst hb
            exact he
        clear hall hrk he
        go_wp2
        go_quiet (fail)
        have HBW : Hid (Below W0.heap.size W0 (wr.drewN nq)) := ⟨hB.out.os, hB.out.tape, hB.out.output, hB.out.size, hB.out.block⟩
        go_wp2
        go_roundw
        case rel => exact ⟨k + 1, by omega, by go_num, hnx, HBW⟩
        case measure => simp [intOf]; omega
    · have hki : ¬ (k : Int) < (m : Int) := by omega
      have HF : Hid (faD ops fs = none) := faD_none fun j b hj hb => hall.out j b (by have := hln.out; omega) hb
      have zr := Blk.keep HZ.out hB.out
      have r0 := zr.cell 0
      have r1 := zr.cell 1
      have r2 := zr.cell 2
      have f0 := zr.frozen 0
      have f1 := zr.frozen 1
      have f2 := zr.frozen 2
      have zf := ((zr.set 0 (.int .i64 0)).set 1 (.int .i64 0)).set 2 (.int .i64 0)
      have d0 := zf.cell 0
      have d1 := zf.cell 1
      have d2 := zf.cell 2
      simp at r0 r1 r2 d0 d1 d2
      clear zr zf
      go_wp2
      refine bodyPost_ret (v := .tuple #[.agg #[.int .i64 0, .int .i64 0, .int .i64 0], .bool false]) (by simp [results, Try.f20, go_sem, d0, d1, d2]) rfl ?_
      rw [← HGP.out, HF.out]
      have hH := HH.out
      have s : ∀ (W : World) (i : Nat) (v : Value), Below w.heap.size w W → Below w.heap.size w (W.setCell ⟨H + 1, i, none⟩ v) := fun W i v hb => hb.setCell (p := ⟨H + 1, i, none⟩) (by simp only; omega) v
      exact ⟨rfl, s _ _ _ (s _ _ _ (s _ _ _ (HB.out.trans (hB.out.mono HB.out.size))))⟩
end
end Go.Proofs.Ytmjifealomgcfaa
