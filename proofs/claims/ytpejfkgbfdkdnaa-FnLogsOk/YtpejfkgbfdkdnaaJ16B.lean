/-
  Joined: DvF, DvA, DvC.
-/
import Derived.Test.YtpejfkgbfdkdnaaJ15B
import Derived.Test.YtpejfkgbfdkdnaaJ10B
namespace Go.Proofs.Ytpejfkgbfdkdnaa
section
open Go.RowKit
/-- A fault that is right. -/
def ftOk (f : FtD) : Bool := (decide (0 ≤ f.tm) && decide (f.tm ≤ 100000)) && (decide (1 ≤ f.kd) && decide (f.kd ≤ 2)) && (decide (0 ≤ f.kp) && decide (f.kp ≤ 400))
/-- The i-th one is right beside the one ahead of it. -/
def ftAt (fs : List FtD) (i : Nat) : Bool := ftOk (fs.getD i ftZ) && (decide (i = 0) || decide ((fs.getD (i - 1) ftZ).tm < (fs.getD i ftZ).tm))
def faultsB (fs : List FtD) : Bool := (List.range fs.length).all (ftAt fs) && decide (fs.length ≤ 20)
theorem ftAt_at {fs : List FtD} {k : Nat} {r : FtD} (h : fs[k]? = some r) : ftAt fs k = (ftOk r && (decide (k = 0) || decide ((fs.getD (k - 1) ftZ).tm < r.tm))) := by
  unfold ftAt
  have e : fs.getD k ftZ = r := by simp [List.getD_eq_getElem?_getD, h]
  rw [e]
theorem faultsB_asc (fs : List FtD) : faultsB fs = (decide (fs.length ≤ 20) && (fs.all ftOk && ascN (tmsF fs))) := by
  rw [Bool.eq_iff_iff]
  unfold faultsB ascN
  rw [tmsF_length]
  simp only [Bool.and_eq_true, List.all_eq_true, List.mem_range, decide_eq_true_eq]
  have hg : ∀ i : Nat, (tmsF fs).getD i 0 = (fs.getD i ftZ).tm := fun i => by
    cases h : fs[i]? with
    | none => simp [tmsF, List.getD_eq_getElem?_getD, h, ftZ]
    | some r => simp [tmsF, List.getD_eq_getElem?_getD, h]
  constructor
  · rintro ⟨h1, h2⟩
    refine ⟨h2, fun f hf => ?_, fun i hi => ?_⟩
    · obtain ⟨i, hi⟩ := List.mem_iff_getElem?.1 hf
      have := h1 i (List.getElem?_eq_some_iff.1 hi).1
      rw [ftAt_at hi] at this
      simp only [Bool.and_eq_true] at this
      exact this.1
    · have := h1 i hi
      unfold ftAt at this
      simp only [Bool.and_eq_true] at this
      rw [hg, hg]
      exact this.2
  · rintro ⟨h2, h1, h3⟩
    refine ⟨fun i hi => ?_, h2⟩
    obtain ⟨r, hr⟩ : ∃ r, fs[i]? = some r := ⟨_, List.getElem?_eq_getElem hi⟩
    have := h3 i hi
    rw [hg, hg] at this
    unfold ftAt
    simp only [Bool.and_eq_true]
    refine ⟨?_, this⟩
    have e : fs.getD i ftZ = r := by simp [List.getD_eq_getElem?_getD, hr]
    rw [e]
    exact h1 r (List.mem_of_getElem? hr)
set_option maxHeartbeats 1600000 in
theorem opsOkI (x : Int) (w : World) :
    Calls Try.prog 53 #[.int .i64 x] w fun e w' => e = .returned (.bool (decide (0 ≤ x) && decide (x ≤ 100000))) ∧ w' = w := by
  go_enter Try.func53, Try.ntmps53
  by_cases h1 : 0 ≤ x
  · by_cases h2 : x ≤ 100000
    · go_wp2
      go_ret
      exact ⟨by simp [h1, h2], rfl⟩
    · go_wp2
      go_ret
      exact ⟨by simp [h2], rfl⟩
  · go_wp2
    go_ret
    exact ⟨by simp; omega, rfl⟩
set_option maxHeartbeats 3200000 in
theorem faultOkI (t u v : Int) (w : World) :
    Calls Try.prog 70 #[.agg #[.int .i64 t, .int .i64 u, .int .i64 v]] w fun e w' => e = .returned (.bool (ftOk ⟨t, u, v⟩)) ∧ Below w.heap.size w w' := by
  have B0 : Below w.heap.size w (w.alloc (.cells #[.int .i64 t, .int .i64 u, .int .i64 v] 93)) := (Below.refl _ w).alloc (Nat.le_refl _) _
  have hcall := opsOkI t (w.alloc (.cells #[.int .i64 t, .int .i64 u, .int .i64 v] 93))
  have hfo : ftOk ⟨t, u, v⟩ = ((decide (0 ≤ t) && decide (t ≤ 100000)) && (decide (u = 1) || decide (u = 2)) && (decide (0 ≤ v) && decide (v ≤ 400))) := by
    have : (decide (1 ≤ u) && decide (u ≤ 2)) = (decide (u = 1) || decide (u = 2)) := by
      rw [Bool.eq_iff_iff]; simp; omega
    unfold ftOk
    rw [this]
  rw [hfo]
  have HB : Hid _ := B0
  clear hfo B0
  generalize (decide (0 ≤ t) && decide (t ≤ 100000)) = p at hcall
  go_enter Try.func70, Try.ntmps70
  go_wp2_with fail
  refine hcall.mono ?_
  rintro e w1 ⟨rfl, hw⟩
  obtain rfl := hw.symm
  clear hcall
  cases p
  · go_wp2
    go_ret
    exact ⟨rfl, HB.out⟩
  · by_cases h1 : u = 1
    · subst h1
      by_cases h3 : 0 ≤ v
      · by_cases h4 : v ≤ 400
        · go_wp2
          go_ret
          exact ⟨by simp, HB.out⟩
        · go_wp2
          go_ret
          exact ⟨by simp, HB.out⟩
      · go_wp2
        go_ret
        exact ⟨by simp; omega, HB.out⟩
    · by_cases h2 : u = 2
      · subst h2
        by_cases h3 : 0 ≤ v
        · by_cases h4 : v ≤ 400
          · go_wp2
            go_ret
            exact ⟨by simp, HB.out⟩
          · go_wp2
            go_ret
            exact ⟨by simp, HB.out⟩
        · go_wp2
          go_ret
          exact ⟨by simp; omega, HB.out⟩
      · have e1 : (u == 1) = false := by simpa using h1
        have e2 : (u == 2) = false := by simpa using h2
        go_wp2
        go_ret
        exact ⟨by simp [h1, h2], HB.out⟩
set_option maxRecDepth 100000 in
set_option maxHeartbeats 4000000 in
theorem faultsOkI (a : Option Addr) (n cap : Nat) (fs : List FtD) (w : World) (hf : FR w a n fs) :
    Calls Try.prog 54 #[.slice a n cap] w fun e w' => e = .returned (.bool (faultsB fs)) ∧ Below w.heap.size w w' := by
  rw [faultsB_asc, hf.len]
  have hs := hf.tot
  by_cases h20 : n ≤ 20
  · have hd : ¬ (20 : Int) < (n : Int) := by omega
    rw [decide_eq_true h20, Bool.true_and]
    have HR : Hid (FR w a n fs) := hf
    have hln : Hid (fs.length = n) := hf.len
    obtain ⟨R, hR⟩ : ∃ R, (fs.all ftOk && ascN (tmsF fs)) = R := ⟨_, rfl⟩
    have HRR : Hid _ := hR
    rw [hR]
    clear hf hR
    go_enter Try.func54, Try.ntmps54
    go_wp2
    go_loopw [10] (fun i wr => ∃ (k : Nat), k ≤ n ∧ i = .int .i64 k ∧ Hid (∀ (j : Nat) (b : FtD), j < k → fs[j]? = some b → ftOk b = true) ∧ Hid (Below w.heap.size w wr)) (fun i _ => n - (intOf i).toNat)
    case atStart => exact ⟨0, Nat.zero_le _, rfl, fun j b hj => by omega, Below.refl _ _⟩
    case round =>
      obtain ⟨k, hk, rfl, hall, hB⟩ := hrel
      by_cases hkn : k < n
      · have hki : (k : Int) < (n : Int) := by omega
        obtain ⟨b, off, r, rfl, hlt, hrk, x0, x1, x2⟩ := (HR.out.keep hB.out).some hkn
        have hB2 : Hid (Below w.heap.size w (wr.alloc (.cells #[.int .i64 r.tm, .int .i64 r.kd, .int .i64 r.kp] 93))) := hB.out.alloc hB.out.size _
        have hcall := faultOkI r.tm r.kd r.kp (wr.alloc (.cells #[.int .i64 r.tm, .int .i64 r.kd, .int .i64 r.kp] 93))
        have hmem : Hid (ftOk r = false → R = false) := fun h => by
          rw [← HRR.out]
          have : fs.all ftOk = false := by
            rw [List.all_eq_false]
            exact ⟨r, List.mem_of_getElem? hrk, by simp [h]⟩
          rw [this]; rfl
        have hnx : Hid (ftOk r = true → ∀ (j : Nat) (b : FtD), j < k + 1 → fs[j]? = some b → ftOk b = true) := fun h j b hj hb => by
          rcases (show j < k ∨ j = k by omega) with h1 | rfl
          · exact hall.out j b h1 hb
          · rw [hrk] at hb
            simp at hb
            subst hb
            exact h
        obtain ⟨t, u, v⟩ := r
        dsimp only at x0 x1 x2 hB2 hcall
        obtain ⟨G, hG⟩ : ∃ G, ftOk ⟨t, u, v⟩ = G := ⟨_, rfl⟩
        rw [hG] at hcall hmem hnx
        clear hrk hall hG
        cases G
        · have hR0 : R = false := hmem.out rfl
          subst hR0
          go_wp2_with fail
          refine hcall.mono ?_
          rintro e w2 ⟨rfl, b2⟩
          clear hcall x0 x1 x2
          go_wp2
          go_ret
          exact ⟨rfl, hB2.out.trans (b2.mono hB2.out.size)⟩
        · have hA : Hid _ := hnx.out rfl
          go_wp2_with fail
          refine hcall.mono ?_
          rintro e w2 ⟨rfl, b2⟩
          clear hcall x0 x1 x2
          go_wp2
          go_roundw
          case rel => exact ⟨k + 1, by omega, by go_num, hA, hB2.out.trans (b2.mono hB2.out.size)⟩
          case measure => simp [intOf]; omega
      · have hki : ¬ (k : Int) < (n : Int) := by omega
        have hall1 : fs.all ftOk = true := by
          rw [List.all_eq_true]
          intro f hf
          obtain ⟨j, hj⟩ := List.mem_iff_getElem?.1 hf
          exact hall.out j f (by have := (List.getElem?_eq_some_iff.1 hj).1; have := hln.out; omega) hj
        have hcall := ascF_any a n cap fs wr hln.out (by omega) (HR.out.keep hB.out).rd
        have hRa : Hid (ascN (tmsF fs) = R) := by show _ = _; rw [← HRR.out, hall1]; rfl
        rw [hRa.out] at hcall
        clear hall1
        go_wp2_with fail
        refine hcall.mono ?_
        rintro e w2 ⟨rfl, b2⟩
        clear hcall
        go_wp2
        go_ret
        exact ⟨rfl, hB.out.trans (b2.mono hB.out.size)⟩
  · have hd : (20 : Int) < (n : Int) := by omega
    rw [decide_eq_false h20, Bool.false_and]
    go_enter Try.func54, Try.ntmps54
    go_wp2
    go_ret
    exact ⟨rfl, Below.refl _ _⟩
end

section
open Go.RowKit
/-- The fault that comes. -/
def faD (ops : Int) (fs : List FtD) : Option FtD := fs.find? (fun f => f.tm == ops)
theorem faD_hit {fs : List FtD} {k : Nat} {r : FtD} {ops : Int} (h : fs[k]? = some r) (he : r.tm = ops) (hn : ∀ (j : Nat) (b : FtD), j < k → fs[j]? = some b → b.tm ≠ ops) : faD ops fs = some r := by
  induction fs generalizing k with
  | nil => simp at h
  | cons f fs ih =>
    cases k with
    | zero => simp at h; subst h; simp [faD, he]
    | succ k =>
      have h0 := hn 0 f (by omega) rfl
      have h1 : faD ops (f :: fs) = faD ops fs := by simp [faD, h0]
      rw [h1]
      exact ih (by simpa using h) (fun j b hj hb => hn (j + 1) b (by omega) (by simpa using hb))
theorem faD_none {fs : List FtD} {ops : Int} (hn : ∀ (j : Nat) (b : FtD), j < fs.length → fs[j]? = some b → b.tm ≠ ops) : faD ops fs = none := by
  unfold faD
  rw [List.find?_eq_none]
  intro f hf
  obtain ⟨j, hj⟩ := List.mem_iff_getElem?.1 hf
  have := hn j f (List.getElem?_eq_some_iff.1 hj).1 hj
  simpa using this
/-- What was answered. -/
def FaA (w : World) (o : Option FtD) (e : Ending) (w' : World) : Prop := e = .returned (.tuple #[.agg #[.int .i64 (o.getD ftZ).tm, .int .i64 (o.getD ftZ).kd, .int .i64 (o.getD ftZ).kp], .bool o.isSome]) ∧ Below w.heap.size w w'
set_option maxRecDepth 100000 in
set_option maxHeartbeats 8000000 in
theorem faultAtS (a : Option Addr) (n cap : Nat) (ops : Int) (fa : Option Addr) (m fc : Nat) (fs : List FtD) (down : Bool) (w : World) (hf : FR w fa m fs) :
    Calls Try.prog 90 #[.agg #[.slice a n cap, .int .i64 ops, .slice fa m fc, .bool down]] w (FaA w (faD ops fs)) := by
  have B0 : Below w.heap.size w ((w.alloc (.cells #[.slice a n cap, .int .i64 ops, .slice fa m fc, .bool down] 29)).alloc (.cells #[.int .i64 0, .int .i64 0, .int .i64 0] 93)) := ((Below.refl _ w).alloc (Nat.le_refl _) _).alloc (by simp) _
  have z0 := (Blk.new w 29 #[.slice a n cap, .int .i64 ops, .slice fa m fc, .bool down]).alloc (.cells #[.int .i64 0, .int .i64 0, .int .i64 0] 93)
  have z1 := Blk.new (w.alloc (.cells #[.slice a n cap, .int .i64 ops, .slice fa m fc, .bool down] 29)) 93 #[.int .i64 0, .int .i64 0, .int .i64 0]
  simp only [World.size_alloc] at z1
  have hs := hf.tot
  have hln : Hid (fs.length = m) := hf.len
  have HR : Hid _ := hf.keep B0
  have HB : Hid _ := B0
  generalize hGP : FaA w (faD ops fs) = P
  have HGP : Hid _ := hGP
  clear hf B0 hGP
  obtain ⟨H, hH⟩ : ∃ H, w.heap.size = H := ⟨_, rfl⟩
  have HH : Hid _ := hH
  rw [hH] at z0 z1
  go_enter Try.func90, Try.ntmps90
  go_wp2
  obtain ⟨W0, hW0⟩ : ∃ W, (w.alloc (.cells #[.slice a n cap, .int .i64 ops, .slice fa m fc, .bool down] 29)).alloc (.cells #[.int .i64 0, .int .i64 0, .int .i64 0] 93) = W := ⟨_, rfl⟩
  rw [hW0] at HB HR z0 z1 ⊢
  have HZ0 : Hid _ := z0
  have HZ : Hid _ := z1
  clear hW0 z0 z1
  try rw [hH]
  clear hH
  go_loopw [4] (fun i wr => ∃ (k : Nat), k ≤ m ∧ i = .int .i64 k ∧ Hid (∀ (j : Nat) (b : FtD), j < k → fs[j]? = some b → b.tm ≠ ops) ∧ Hid (Below W0.heap.size W0 wr)) (fun i _ => m - (intOf i).toNat)
  case atStart => exact ⟨0, Nat.zero_le _, rfl, fun j b hj => by omega, Below.refl _ _⟩
  case round =>
    obtain ⟨k, hk, rfl, hall, hB⟩ := hrel
    have zd := Blk.keep HZ0.out hB.out
    have y1 := zd.cell 1
    have y2 := zd.cell 2
    simp at y1 y2
    clear zd
    by_cases hkn : k < m
    · have hki : (k : Int) < (m : Int) := by omega
      obtain ⟨b, off, r, rfl, hlt, hrk, x0, x1, x2⟩ := (HR.out.keep hB.out).some hkn
      by_cases he : r.tm = ops
      · have HF : Hid (faD ops fs = some r) := faD_hit hrk he hall.out
        have e0 : (r.tm == ops) = true := by simpa using he
        clear hall hrk he
        go_wp2
        go_quiet (fail)
        have v0 : (wr.drewN nq).cell? ⟨b, off + k * 3, none⟩ = some (.int .i64 r.tm) := x0
        have v1 : (wr.drewN nq).cell? ⟨b, off + k * 3 + 1, none⟩ = some (.int .i64 r.kd) := x1
        have v2 : (wr.drewN nq).cell? ⟨b, off + k * 3 + 2, none⟩ = some (.int .i64 r.kp) := x2
        have u2 : (wr.drewN nq).cell? ⟨H, 2, none⟩ = some (.slice (some ⟨b, off, none⟩) m fc) := y2
        have HBW : Hid (Below W0.heap.size W0 (wr.drewN nq)) := ⟨hB.out.os, hB.out.tape, hB.out.output, hB.out.size, hB.out.block⟩
        have zr := Blk.keep HZ.out HBW.out
        obtain ⟨W3, hW3⟩ : ∃ W, wr.drewN nq = W := ⟨_, rfl⟩
        rw [hW3] at zr v0 v1 v2 u2 HBW ⊢
        clear hW3 x0 x1 x2 y1 y2
        have r0 := zr.cell 0
        have r1 := zr.cell 1
        have r2 := zr.cell 2
        have f0 := zr.frozen 0
        have f1 := zr.frozen 1
        have f2 := zr.frozen 2
        have zf := ((zr.set 0 (.int .i64 r.tm)).set 1 (.int .i64 r.kd)).set 2 (.int .i64 r.kp)
        have d0 := zf.cell 0
        have d1 := zf.cell 1
        have d2 := zf.cell 2
        simp at r0 r1 r2 d0 d1 d2
        clear zr zf
        go_wp2
        refine bodyPost_ret (v := .tuple #[.agg #[.int .i64 r.tm, .int .i64 r.kd, .int .i64 r.kp], .bool true]) (by simp [results, Try.f90, go_sem, d0, d1, d2]) rfl ?_
        rw [← HGP.out, HF.out]
        have hH := HH.out
        have s : ∀ (W : World) (i : Nat) (v : Value), Below w.heap.size w W → Below w.heap.size w (W.setCell ⟨H + 1, i, none⟩ v) := fun W i v hb => hb.setCell (p := ⟨H + 1, i, none⟩) (by simp only; omega) v
        exact ⟨rfl, s _ _ _ (s _ _ _ (s _ _ _ (HB.out.trans (HBW.out.mono HB.out.size))))⟩
      · have e0 : (r.tm == ops) = false := by simpa using he
        have hnx : Hid (∀ (j : Nat) (b : FtD), j < k + 1 → fs[j]? = some b → b.tm ≠ ops) := fun j b hj hb => by
          rcases (show j < k ∨ j = k by omega) with h1 | rfl
          · exact hall.out j b h1 hb
          · rw [hrk] at hb
            simp at hb
            subst hb
            exact he
        clear hall hrk he
        go_wp2
        go_quiet (fail)
        have HBW : Hid (Below W0.heap.size W0 (wr.drewN nq)) := ⟨hB.out.os, hB.out.tape, hB.out.output, hB.out.size, hB.out.block⟩
        go_wp2
        go_roundw
        case rel => exact ⟨k + 1, by omega, by go_num, hnx, HBW⟩
        case measure => simp [intOf]; omega
    · have hki : ¬ (k : Int) < (m : Int) := by omega
      have HF : Hid (faD ops fs = none) := faD_none fun j b hj hb => hall.out j b (by have := hln.out; omega) hb
      have zr := Blk.keep HZ.out hB.out
      have r0 := zr.cell 0
      have r1 := zr.cell 1
      have r2 := zr.cell 2
      have f0 := zr.frozen 0
      have f1 := zr.frozen 1
      have f2 := zr.frozen 2
      have zf := ((zr.set 0 (.int .i64 0)).set 1 (.int .i64 0)).set 2 (.int .i64 0)
      have d0 := zf.cell 0
      have d1 := zf.cell 1
      have d2 := zf.cell 2
      simp at r0 r1 r2 d0 d1 d2
      clear zr zf
      go_wp2
      refine bodyPost_ret (v := .tuple #[.agg #[.int .i64 0, .int .i64 0, .int .i64 0], .bool false]) (by simp [results, Try.f90, go_sem, d0, d1, d2]) rfl ?_
      rw [← HGP.out, HF.out]
      have hH := HH.out
      have s : ∀ (W : World) (i : Nat) (v : Value), Below w.heap.size w W → Below w.heap.size w (W.setCell ⟨H + 1, i, none⟩ v) := fun W i v hb => hb.setCell (p := ⟨H + 1, i, none⟩) (by simp only; omega) v
      exact ⟨rfl, s _ _ _ (s _ _ _ (s _ _ _ (HB.out.trans (hB.out.mono HB.out.size))))⟩
end

section
open Go.RowKit
theorem RdE.news {α : Type} {E : El α} {rd : α → Prop} {W : World} {a : Option Addr} {rs : List α} (h : RdE E rd W a rs) : rs = [] ∨ ∃ ad, a = some ad ∧ ∀ j u, (E.xv rs)[j]? = some u → W.cell? (ad.add j) = some u := by
  rcases h with h | ⟨b, off, rfl, hc⟩
  · exact .inl h
  · refine .inr ⟨_, rfl, fun j u hj => ?_⟩
    have hp := E.pos
    have hl : j < rs.length * E.k := by
      have := (List.getElem?_eq_some_iff.1 hj).1
      rw [E.xv_length] at this
      exact this
    have hi : j / E.k < rs.length := (Nat.div_lt_iff_lt_mul hp).2 hl
    have hr : rs[j / E.k]? = some rs[j / E.k] := List.getElem?_eq_getElem hi
    have hm : j % E.k < E.k := Nat.mod_lt _ hp
    have hjj : j / E.k * E.k + j % E.k = j := by rw [Nat.mul_comm]; exact Nat.div_add_mod j E.k
    have h1 := (hc _ _ hr).1 _ hm
    rw [Nat.add_assoc, hjj] at h1
    have h2 := E.xv_at rs _ _ _ hr hm
    rw [hjj] at h2
    rw [show (⟨b, off, none⟩ : Addr).add j = ⟨b, off + j, none⟩ by simp [Addr.add], h1, ← h2]
    exact hj
/-- Faults onto a row that has none. -/
structure AppF (W : World) (v : Value) (m : Nat) (fs : List FtD) (v' : Value) (W' : World) : Prop where
  own : OwnFa W' v' m fs
  gr : W.grownBy W' v.ownBlock
  at_ : v'.ownBlock = v.ownBlock ∨ v'.ownBlock = some W.heap.size
theorem app_faults (W : World) (v : Value) (hown : OwnFa W v 0 []) (ao : Option Addr) (m c : Nat) (fs : List FtD) (hf : FR W ao m fs) (ty : TypeId) :
    ∃ v' W', (Builtin.append_ #[27, 27] ty #[v, .slice ao m c]).run Try.prog W = .ok v' W' ∧ AppF W v m fs v' W' := by
  obtain ⟨i0, hi, hz0, hz1, hz2⟩ := info_parts Try.infoFault
  have hl := hf.len
  have ht := hf.tot
  obtain ⟨v', W', h1, h2, h3, h4⟩ := run_appAny W 0 27 ty 93 i0 _ 3 24 Try.underlying27 hi hz0 hz1 hz2 rfl (by omega) v 0 [] hown ao m c (ftE.xv fs) (by rw [ftE.xv_length, hl]; rfl) (by
    rcases RdE.news hf.rd with h | h
    · left; rw [← hl, h]; rfl
    · exact .inr h) (fun u hu => by
      obtain ⟨f, _, hf2⟩ := List.mem_flatMap.1 hu
      simp [ftE] at hf2
      rcases hf2 with rfl | rfl | rfl <;> rfl) (by omega) (by omega) (Nat.zero_le _)
  rw [Nat.zero_add, List.nil_append] at h2
  exact ⟨v', W', h1, ⟨h2, h3, h4⟩⟩
theorem faults_nil (W : World) : OwnFa W (.slice none 0 0) 0 [] := ownE_nil _ _ _
theorem faults_fresh (W : World) : OwnFa (W.alloc (.cells #[] 93)) (.slice (some ⟨W.heap.size, 0, none⟩) 0 0) 0 [] := empty_row W 0 93 3 (Nat.zero_le _)
theorem AppF.form {W W' : World} {v v' : Value} {m : Nat} {fs : List FtD} (h : AppF W v m fs v' W') : ∃ fa fc, v' = .slice fa m fc := by
  obtain ⟨a', c', e, _⟩ := OwnE.rd (rd := fun _ => True) h.own (fun _ _ => trivial)
  exact ⟨a', c', e⟩
/-- Appended to what is new since w. -/
theorem AppF.new {w W W' : World} {v : Value} {fa : Option Addr} {m fc : Nat} {fs : List FtD} (h : AppF W v m fs (.slice fa m fc) W') (hb : Below w.heap.size w W) (hv : ∀ g, v.ownBlock = some g → w.heap.size ≤ g) : (∀ g, (Value.slice fa m fc).ownBlock = some g → w.heap.size ≤ g) ∧ Below w.heap.size w W' := by
  refine ⟨fun g hg => ?_, hb.grown h.gr hb.size hv⟩
  rcases h.at_ with e | e
  · exact hv g (by rw [← e]; exact hg)
  · rw [e] at hg; simp at hg; have := hb.size; omega
theorem dv_ab {W W1 W9 : World} {a1 fa : Option Addr} {n1 c1 m fc : Nat} {ds : List BkD} {fs : List FtD} {qs : List BkR} (hc : NewBs W1 W.heap.size (.slice a1 n1 c1) ds qs) (b1 : Below W.heap.size W W1) (hf : OwnFa W9 (.slice fa m fc) m fs) (hn : ∀ g, (Value.slice fa m fc).ownBlock = some g → W1.heap.size ≤ g) (b9 : Below W1.heap.size W1 W9) : NewDv W9 W.heap.size a1 n1 c1 fa m fc ds fs qs :=
  ⟨hc.keep b9, hf, fun g hg => ⟨Nat.le_trans b1.size (hn g hg), fun h => by have := hc.own.lt g h; have := hn g hg; omega⟩⟩
/-- The row was begun, the chip copied, then the faults appended. -/
theorem dv_mid {W W1 W9 : World} {o : Obj} {a1 fa : Option Addr} {n1 c1 m fc : Nat} {ds : List BkD} {fs : List FtD} {qs : List BkR} (h : AppF W1 (.slice (some ⟨W.heap.size, 0, none⟩) 0 0) m fs (.slice fa m fc) W9) (hc : NewBs W1 (W.alloc o).heap.size (.slice a1 n1 c1) ds qs) (_ : Below W.heap.size W (W.alloc o)) (b1 : Below (W.alloc o).heap.size (W.alloc o) W1) : NewDv W9 W.heap.size a1 n1 c1 fa m fc ds fs qs := by
  have hs : (W.alloc o).heap.size = W.heap.size + 1 := by simp
  have hs1 := b1.size
  have hno : W.heap.size ∉ fpBs (.slice a1 n1 c1) qs := fun hf => by have := hc.new _ hf; omega
  refine ⟨⟨hc.D, hc.own.block fun g hg => h.gr.block g (hc.own.lt g hg) (fun e => ?_), fun g hg => by have := hc.new g hg; omega, hc.nd⟩, h.own, fun g hg => ?_⟩
  · simp [Value.ownBlock] at e
    exact hno (e ▸ hg)
  · rcases h.at_ with e | e
    · rw [e] at hg
      simp [Value.ownBlock] at hg
      subst hg
      exact ⟨Nat.le_refl _, hno⟩
    · rw [e] at hg
      simp at hg
      subst hg
      exact ⟨by omega, fun hf => by have := hc.own.lt _ hf; omega⟩
set_option maxRecDepth 100000 in
set_option maxHeartbeats 8000000 in
theorem copyDevS (a : Option Addr) (n cap : Nat) (bs : List BkR) (ops : Int) (fa : Option Addr) (m fc : Nat) (fs : List FtD) (down : Bool) (w : World) (ht : CR w a n bs) (hf : FR w fa m fs) :
    Calls Try.prog 77 #[.agg #[.slice a n cap, .int .i64 ops, .slice fa m fc, .bool down]] w (DvA w ⟨bs.map BkR.D, ops, fs, down⟩) := by
  have B0 : Below w.heap.size w ((w.alloc (.cells #[.slice a n cap, .int .i64 ops, .slice fa m fc, .bool down] 29)).alloc (.cells #[.slice none 0 0, .int .i64 0, .slice none 0 0, .bool false] 29)) := ((Below.refl _ w).alloc (Nat.le_refl _) _).alloc (by simp) _
  have z0 := (Blk.new w 29 #[.slice a n cap, .int .i64 ops, .slice fa m fc, .bool down]).alloc (.cells #[.slice none 0 0, .int .i64 0, .slice none 0 0, .bool false] 29)
  have z1 := Blk.new (w.alloc (.cells #[.slice a n cap, .int .i64 ops, .slice fa m fc, .bool down] 29)) 29 #[.slice none 0 0, .int .i64 0, .slice none 0 0, .bool false]
  simp only [World.size_alloc] at z1
  obtain ⟨H, hH⟩ : ∃ H, w.heap.size = H := ⟨_, rfl⟩
  rw [hH] at z0 z1
  generalize hGP : DvA w ⟨bs.map BkR.D, ops, fs, down⟩ = P
  have HGP : Hid _ := hGP
  clear hGP
  go_enter Try.func77, Try.ntmps77
  go_upto_region 1 with fail
  obtain ⟨W0, hW0⟩ : ∃ W, (w.alloc (.cells #[.slice a n cap, .int .i64 ops, .slice fa m fc, .bool down] 29)).alloc (.cells #[.slice none 0 0, .int .i64 0, .slice none 0 0, .bool false] 29) = W := ⟨_, rfl⟩
  rw [hW0] at B0 z0 z1 ⊢
  clear hW0
  have HD : Hid (Below w.heap.size w W0.drew) := B0.drew
  have HZ0 : Hid (Blk W0.drew H 29 #[.slice a n cap, .int .i64 ops, .slice fa m fc, .bool down]) := z0.keep (Below.refl _ _).drew
  have HZ1 : Hid (Blk W0.drew (H + 1) 29 #[.slice none 0 0, .int .i64 0, .slice none 0 0, .bool false]) := z1.keep (Below.refl _ _).drew
  have hall : Hid (∀ W : World, Below W0.drew.heap.size W0.drew W → W.cell? ⟨H, 0, none⟩ = some (.slice a n cap) ∧ W.cell? ⟨H, 1, none⟩ = some (.int .i64 ops) ∧ W.cell? ⟨H, 2, none⟩ = some (.slice fa m fc) ∧ W.cell? ⟨H, 3, none⟩ = some (.bool down)) := fun W hW => ⟨(Blk.keep HZ0.out hW).cell 0, (Blk.keep HZ0.out hW).cell 1, (Blk.keep HZ0.out hW).cell 2, (Blk.keep HZ0.out hW).cell 3⟩
  have HC : Hid (∀ W : World, Below W0.drew.heap.size W0.drew W → Calls Try.prog 94 #[.agg #[.slice a n cap]] W (ChA W (bs.map BkR.D))) := fun W hW => copyChS a n cap bs W ((ht.keep HD.out).keep hW)
  have HF : Hid (∀ W : World, Below W0.drew.heap.size W0.drew W → FR W fa m fs) := fun W hW => (hf.keep HD.out).keep hW
  have hc0 := HC.out W0.drew (Below.refl _ _)
  have bA : Below W0.drew.heap.size W0.drew (W0.drew.alloc (.cells #[] 93)) := (Below.refl _ _).alloc (Nat.le_refl _) _
  have HBA : Hid _ := bA
  have hc5 : Calls Try.prog 94 #[.agg #[.slice a n cap]] (W0.alloc (.cells #[] 93)).drew (ChA (W0.alloc (.cells #[] 93)).drew (bs.map BkR.D)) := HC.out _ bA
  have happ5 := fun ty => app_faults _ _ (faults_fresh W0.drew) fa m fc fs (HF.out _ bA) ty
  have HAP5 : Hid _ := happ5
  obtain ⟨s0, s1, s2, s3⟩ := hall.out W0.drew (Below.refl _ _)
  clear ht hf B0 z0 z1 bA happ5
  refine wp_region_noPanic ?_
  refine wp_region_last (fun W : World => W.cell? ⟨H, 0, none⟩ = some (.slice a n cap) ∧ W.cell? ⟨H, 1, none⟩ = some (.int .i64 ops) ∧ W.cell? ⟨H, 2, none⟩ = some (.slice fa m fc) ∧ W.cell? ⟨H, 3, none⟩ = some (.bool down)) 12 (by kernel_rfl) (by kernel_rfl) (by go_keep) 12 (by kernel_rfl) (fun hS => ?_)
  refine wpAnyH_take (i := 0) (v := ?gv10) rfl (by kernel_rfl) (by kernel_rfl) (by kernel_rfl) (fun _ _ _ h => h) (Or.inl ⟨by kernel_rfl, ?gy10⟩) (by assumption) ?gr10
  case gy10 => (intro w' hSw; (try dsimp only at hSw); go_simp; (try with_reducible rfl))
  try simp only [Act.put, List.setIfInBounds_toArray, List.set_cons_zero, List.set_cons_succ, List.getElem_toArray, List.getElem_cons_zero]
  refine wpAnyH_take (i := 1) (v := ?gv11) rfl (by kernel_rfl) (by kernel_rfl) (by kernel_rfl) (fun _ _ _ h => h) (Or.inl ⟨by kernel_rfl, ?gy11⟩) (by assumption) ?gr11
  case gy11 => (intro w' hSw; (try dsimp only at hSw); go_simp; (try with_reducible rfl))
  try simp only [Act.put, List.setIfInBounds_toArray, List.set_cons_zero, List.set_cons_succ, List.getElem_toArray, List.getElem_cons_succ, List.getElem_cons_zero]
  refine wpAnyH_take (i := 3) (v := ?gv12) rfl (by kernel_rfl) (by kernel_rfl) (by kernel_rfl) (fun _ _ _ h => h) (Or.inl ⟨by kernel_rfl, ?gy12⟩) (by assumption) ?gr12
  case gy12 => (intro w' hSw; (try dsimp only at hSw); go_simp; (try with_reducible rfl))
  try simp only [Act.put, List.setIfInBounds_toArray, List.set_cons_zero, List.set_cons_succ, List.getElem_toArray, List.getElem_cons_succ, List.getElem_cons_zero]
  refine wpAnyH_take (i := 4) (v := ?gv13) rfl (by kernel_rfl) (by kernel_rfl) (by kernel_rfl) (fun _ _ _ h => h) (Or.inl ⟨by kernel_rfl, ?gy13⟩) (by assumption) ?gr13
  case gy13 => (intro w' hSw; (try dsimp only at hSw); go_simp; (try with_reducible rfl))
  try simp only [Act.put, List.setIfInBounds_toArray, List.set_cons_zero, List.set_cons_succ, List.getElem_toArray, List.getElem_cons_succ, List.getElem_cons_zero]
  refine wpAnyH_take (i := 6) (v := ?gv14) rfl (by kernel_rfl) (by kernel_rfl) (by kernel_rfl) (fun _ _ _ h => h) (Or.inl ⟨by kernel_rfl, ?gy14⟩) (by assumption) ?gr14
  case gy14 => (intro w' hSw; (try dsimp only at hSw); go_simp; (try with_reducible rfl))
  try simp only [Act.put, List.setIfInBounds_toArray, List.set_cons_zero, List.set_cons_succ, List.getElem_toArray, List.getElem_cons_succ, List.getElem_cons_zero]
  refine wpAnyH_take (i := 7) (v := ?gv15) rfl (by kernel_rfl) (by kernel_rfl) (by kernel_rfl) (fun _ _ _ h => h) (Or.inl ⟨by kernel_rfl, ?gy15⟩) (by assumption) ?gr15
  case gy15 => (intro w' hSw; (try dsimp only at hSw); go_simp; (try with_reducible rfl))
  try simp only [Act.put, List.setIfInBounds_toArray, List.set_cons_zero, List.set_cons_succ, List.getElem_toArray, List.getElem_cons_succ, List.getElem_cons_zero]
  refine wpAnyH_take (i := 9) (v := ?gv16) rfl (by kernel_rfl) (by kernel_rfl) (by kernel_rfl) (fun _ _ _ h => h) (Or.inl ⟨by kernel_rfl, ?gy16⟩) (by assumption) ?gr16
  case gy16 => (intro w' hSw; (try dsimp only at hSw); go_simp; (try with_reducible rfl))
  try simp only [Act.put, List.setIfInBounds_toArray, List.set_cons_zero, List.set_cons_succ, List.getElem_toArray, List.getElem_cons_succ, List.getElem_cons_zero]
  refine wpAnyH_take (i := 10) (v := ?gv17) rfl (by kernel_rfl) (by kernel_rfl) (by kernel_rfl) (fun _ _ _ h => h) (Or.inl ⟨by kernel_rfl, ?gy17⟩) (by assumption) ?gr17
  case gy17 => (intro w' hSw; (try dsimp only at hSw); go_simp; (try with_reducible rfl))
  try simp only [Act.put, List.setIfInBounds_toArray, List.set_cons_zero, List.set_cons_succ, List.getElem_toArray, List.getElem_cons_succ, List.getElem_cons_zero]
  refine wpAnyH_ready (rs := [2, 5]) (by kernel_rfl) (by simp) ?_
  refine AllReadyH.cons rfl (fun K hK => ?_) (AllReadyH.cons rfl (fun K hK => ?_) AllReadyH.nil)
  go_simp
  (with_reducible refine hc0.mono ?_)
  rintro e W1 ⟨a1, n1, c1, qs, rfl, hq, hql, b1⟩
  have HQ : Hid (NewBs W1 W0.drew.heap.size (.slice a1 n1 c1) (bs.map BkR.D) qs ∧ qs.length = n1 ∧ Below W0.drew.heap.size W0.drew W1) := ⟨hq, hql, b1⟩
  clear hq hql b1
  clear hS
  try dsimp only
  refine Shut.out hK _ _ (hall.out W1 HQ.out.2.2) (fun hS => ?_)
  try simp only [Act.put, List.setIfInBounds_toArray, List.set_cons_zero, List.set_cons_succ, List.getElem_toArray, List.getElem_cons_succ, List.getElem_cons_zero]
  refine wpAnyH_ready (rs := [5]) (by kernel_rfl) (by simp) ?_
  refine AllReadyH.cons rfl (fun K hK => ?_) AllReadyH.nil
  go_simp
  have b2 : Below W1.heap.size W1 (W1.alloc (.cells #[] 93)) := (Below.refl _ _).alloc (Nat.le_refl _) _
  have bE : Below W0.drew.heap.size W0.drew (W1.alloc (.cells #[] 93)) := HQ.out.2.2.trans (b2.mono HQ.out.2.2.size)
  have happ := (fun ty => app_faults _ _ (faults_fresh W1) fa m fc fs (HF.out _ bE) ty)
  have HAP : Hid _ := happ
  have HBE : Hid _ := And.intro b2 bE
  clear happ b2 bE
  clear hS
  try dsimp only
  refine Shut.out hK _ _ (hall.out _ HBE.out.2) (fun hS => ?_)
  try simp only [Act.put, List.setIfInBounds_toArray, List.set_cons_zero, List.set_cons_succ, List.getElem_toArray, List.getElem_cons_succ, List.getElem_cons_zero]
  refine wpAnyH_ready (rs := [8]) (by kernel_rfl) (by simp) ?_
  refine AllReadyH.cons rfl (fun K hK => ?_) AllReadyH.nil
  refine step_appAny (W1.alloc (.cells #[] 93)) rfl (.tmp 8) (.tmp 10) 27 rfl (.slice (some ⟨W1.heap.size, 0, none⟩) 0 0) (.slice fa m fc) _ rfl rfl HAP.out ?_
  intro v2 W9 hap
  obtain ⟨fa1, fc1, rfl⟩ := hap.form
  have hnw := hap.new HBE.out.1 (fun g hg => by simp [Value.ownBlock] at hg; omega)
  have HND : Hid (NewDv W9 W0.drew.heap.size a1 n1 c1 fa1 m fc1 (bs.map BkR.D) fs qs ∧ qs.length = n1 ∧ Below W0.drew.heap.size W0.drew W9) := ⟨dv_ab HQ.out.1 HQ.out.2.2 hap.own hnw.1 hnw.2, HQ.out.2.1, HQ.out.2.2.trans (hnw.2.mono HQ.out.2.2.size)⟩
  clear hap hnw HQ HBE HAP
  have zr := Blk.keep HZ1.out HND.out.2.2
  have r0 := zr.cell 0
  have r1 := zr.cell 1
  have r2 := zr.cell 2
  have r3 := zr.cell 3
  have f0 := zr.frozen 0
  have f1 := zr.frozen 1
  have f2 := zr.frozen 2
  have f3 := zr.frozen 3
  simp at r0 r1 r2 r3
  clear hS
  try dsimp only
  refine Shut.out hK _ _ (hall.out W9 HND.out.2.2) (fun hS => ?_)
  try simp only [Act.put, List.setIfInBounds_toArray, List.set_cons_zero, List.set_cons_succ, List.getElem_toArray, List.getElem_cons_succ, List.getElem_cons_zero]
  refine wpAnyH_take (i := 11) (v := ?gv18) rfl (by kernel_rfl) (by kernel_rfl) (by kernel_rfl) (fun _ _ _ h => h) (Or.inl ⟨by kernel_rfl, ?gy18⟩) (by assumption) ?gr18
  case gy18 => (intro w' hSw; (try dsimp only at hSw); go_simp; (try with_reducible rfl))
  try simp only [Act.put, List.setIfInBounds_toArray, List.set_cons_zero, List.set_cons_succ, List.getElem_toArray, List.getElem_cons_succ, List.getElem_cons_zero]
  refine wpAnyH_done (by kernel_rfl) ?_ _
  refine wpOp_last rfl (fun K hK => ?_)
  clear hS
  go_simp
  refine Shut.out hK _ _ (NoPanic.normal ?_)
  rotate_left 1
  go_simp
  clear hS
  try dsimp only
  refine Shut.out hK _ _ (hall.out _ HBA.out) (fun hS => ?_)
  try simp only [Act.put, List.setIfInBounds_toArray, List.set_cons_zero, List.set_cons_succ, List.getElem_toArray, List.getElem_cons_succ, List.getElem_cons_zero]
  refine wpAnyH_ready (rs := [2]) (by kernel_rfl) (by simp) ?_
  refine AllReadyH.cons rfl (fun K hK => ?_) AllReadyH.nil
  go_simp
  (with_reducible refine hc5.mono ?_)
  rintro e W1 ⟨a1, n1, c1, qs, rfl, hq, hql, b1⟩
  have bE : Below W0.drew.heap.size W0.drew W1 := HBA.out.trans (b1.mono HBA.out.size)
  have happ := (fun ty => app_faults _ _ (OwnE.keep (faults_fresh W0.drew) b1) fa m fc fs (HF.out _ bE) ty)
  have HAP : Hid _ := happ
  have HQ : Hid _ := And.intro hq (And.intro hql (And.intro b1 bE))
  clear happ hq hql b1 bE
  clear hS
  try dsimp only
  refine Shut.out hK _ _ (hall.out W1 HQ.out.2.2.2) (fun hS => ?_)
  try simp only [Act.put, List.setIfInBounds_toArray, List.set_cons_zero, List.set_cons_succ, List.getElem_toArray, List.getElem_cons_succ, List.getElem_cons_zero]
  refine wpAnyH_ready (rs := [8]) (by kernel_rfl) (by simp) ?_
  refine AllReadyH.cons rfl (fun K hK => ?_) AllReadyH.nil
  refine step_appAny W1 rfl (.tmp 8) (.tmp 10) 27 rfl (.slice (some ⟨W0.drew.heap.size, 0, none⟩) 0 0) (.slice fa m fc) _ rfl rfl HAP.out ?_
  intro v2 W9 hap
  obtain ⟨fa1, fc1, rfl⟩ := hap.form
  have HND : Hid (NewDv W9 W0.drew.heap.size a1 n1 c1 fa1 m fc1 (bs.map BkR.D) fs qs ∧ qs.length = n1 ∧ Below W0.drew.heap.size W0.drew W9) := ⟨dv_mid hap HQ.out.1 HBA.out HQ.out.2.2.1, HQ.out.2.1, (hap.new HQ.out.2.2.2 (fun g hg => by simp [Value.ownBlock] at hg; simp; omega)).2⟩
  clear hap HQ HAP
  have zr := Blk.keep HZ1.out HND.out.2.2
  have r0 := zr.cell 0
  have r1 := zr.cell 1
  have r2 := zr.cell 2
  have r3 := zr.cell 3
  have f0 := zr.frozen 0
  have f1 := zr.frozen 1
  have f2 := zr.frozen 2
  have f3 := zr.frozen 3
  simp at r0 r1 r2 r3
  clear hS
  try dsimp only
  refine Shut.out hK _ _ (hall.out W9 HND.out.2.2) (fun hS => ?_)
  try simp only [Act.put, List.setIfInBounds_toArray, List.set_cons_zero, List.set_cons_succ, List.getElem_toArray, List.getElem_cons_succ, List.getElem_cons_zero]
  refine wpAnyH_take (i := 11) (v := ?gv19) rfl (by kernel_rfl) (by kernel_rfl) (by kernel_rfl) (fun _ _ _ h => h) (Or.inl ⟨by kernel_rfl, ?gy19⟩) (by assumption) ?gr19
  case gy19 => (intro w' hSw; (try dsimp only at hSw); go_simp; (try with_reducible rfl))
  try simp only [Act.put, List.setIfInBounds_toArray, List.set_cons_zero, List.set_cons_succ, List.getElem_toArray, List.getElem_cons_succ, List.getElem_cons_zero]
  refine wpAnyH_done (by kernel_rfl) ?_ _
  refine wpOp_last rfl (fun K hK => ?_)
  clear hS
  go_simp
  refine Shut.out hK _ _ (NoPanic.normal ?_)
  rotate_left 1
  all_goals (
    have zf := (((zr.set 0 (.slice a1 n1 c1)).set 1 (.int .i64 ops)).set 2 (.slice fa1 m fc1)).set 3 (.bool down)
    have d0 := zf.cell 0
    have d1 := zf.cell 1
    have d2 := zf.cell 2
    have d3 := zf.cell 3
    simp at d0 d1 d2 d3
    clear zr zf r0 r1 r2 r3 f0 f1 f2 f3 hc0 hc5 s0 s1 s2 s3
    go_wp2
    refine bodyPost_ret (v := .agg #[.slice a1 n1 c1, .int .i64 ops, .slice fa1 m fc1, .bool down]) (by simp [results, Try.f77, go_sem, d0, d1, d2, d3]) rfl ?_
    rw [← HGP.out]
    obtain ⟨hd, hl, hb⟩ := HND.out
    have h1 : H + 1 < W0.drew.heap.size := HZ1.out.lt
    have bel : Below w.heap.size w W9 := HD.out.trans (hb.mono HD.out.size)
    have s : ∀ (W : World) (i : Nat) (v : Value), Below w.heap.size w W → Below w.heap.size w (W.setCell ⟨H + 1, i, none⟩ v) := fun W i v hb => hb.setCell (p := ⟨H + 1, i, none⟩) (by simp only; omega) v
    exact ⟨a1, n1, c1, fa1, m, fc1, qs, rfl, ((((hd.set_below h1).set_below h1).set_below h1).set_below h1).wider HD.out.size, hl, s _ _ _ (s _ _ _ (s _ _ _ (s _ _ _ bel)))⟩)
end
end Go.Proofs.Ytpejfkgbfdkdnaa
