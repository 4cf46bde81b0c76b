/-
  Joined: ChFn, DvM, DvO.
-/
import Derived.Test.YtnhbhpbmnlojlaaGreatDoorJ07W
namespace Go.Proofs.YtnhbhpbmnlojlaaGreatDoor
section
open Go.RowKit
/-- A chip that can be read. -/
structure CR (w : World) (a : Option Addr) (n : Nat) (bs : List BkR) : Prop where
  len : bs.length = n
  tot : totB (bs.map BkR.D) ≤ 1048576
  rd : RdBs w a bs
theorem CR.keep {w w' : World} {a : Option Addr} {n : Nat} {bs : List BkR} (h : CR w a n bs) (hb : Below w.heap.size w w') : CR w' a n bs := ⟨h.len, h.tot, h.rd.keep hb⟩
theorem CR.n {w : World} {a : Option Addr} {n : Nat} {bs : List BkR} (h : CR w a n bs) : n ≤ 1048576 := by
  have := totB_len (bs.map BkR.D)
  have h1 := h.tot
  have h2 := h.len
  simp at this
  omega
theorem CR.some {w : World} {a : Option Addr} {n k : Nat} {bs : List BkR} (h : CR w a n bs) (hk : k < n) : ∃ b off r, a = some ⟨b, off, none⟩ ∧ b < w.heap.size ∧ bs[k]? = .some r ∧ ThreeB w b (off + k * 3) r ∧ RdPs w r.a r.ps ∧ totP (r.ps.map PgR.D) ≤ 1048576 := by
  have hl := h.len
  have hrk : bs[k]? = .some bs[k] := List.getElem?_eq_getElem (by omega)
  obtain ⟨b, off, e, hlt, hc⟩ := h.rd.lt (by intro h0; subst h0; simp at hl; omega)
  have := totB_at hrk
  have h3 := h.tot
  exact ⟨b, off, bs[k], e, hlt, hrk, (hc k _ hrk).1, (hc k _ hrk).2, by omega⟩
/-- How many pages are written. -/
def nextP (ps : List PgD) : Nat := (ps.filter PgD.used).length
theorem nextP_snoc (ps : List PgD) (p : PgD) : nextP (ps ++ [p]) = nextP ps + (if p.used then 1 else 0) := by
  unfold nextP
  rw [List.filter_append]
  cases h : p.used <;> simp [h]
theorem nextP_take {ps : List PgR} {k : Nat} {p : PgR} (h : ps[k]? = some p) : nextP ((ps.take (k + 1)).map PgR.D) = nextP ((ps.take k).map PgR.D) + (if p.used then 1 else 0) := by
  rw [List.take_add_one, h]
  simp only [Option.toList_some, List.map_append, List.map_cons, List.map_nil]
  rw [nextP_snoc]
  rfl
theorem nextP_le (ps : List PgD) : nextP ps ≤ ps.length := List.length_filter_le _ _
set_option maxRecDepth 100000 in
set_option maxHeartbeats 4000000 in
theorem l10NextS (a : Option Addr) (n cap : Nat) (wear : Int) (bad : Bool) (ps : List PgR) (w : World) (hn : ps.length = n) (hs : totP (ps.map PgR.D) ≤ 1048576) (hr : RdPs w a ps) :
    Calls Tryz.prog 102 #[.agg #[.slice a n cap, .int .i64 wear, .bool bad]] w fun e w' => e = .returned (.int .i64 (nextP (ps.map PgR.D) : Nat)) ∧ Below w.heap.size w w' := by
  have B0 : Below w.heap.size w (w.alloc (.cells #[.slice a n cap, .int .i64 wear, .bool bad] 82)) := (Below.refl _ w).alloc (Nat.le_refl _) _
  have z0 := Blk.new w 82 #[.slice a n cap, .int .i64 wear, .bool bad]
  have HT : Hid (RdPs (w.alloc (.cells #[.slice a n cap, .int .i64 wear, .bool bad] 82)) a ps) := hr.keep B0
  have HB : Hid _ := B0
  have hl := totP_len (ps.map PgR.D)
  have hn1 : n ≤ 1048576 := by simp at hl; omega
  have hln : Hid (ps.length = n) := hn
  clear hr B0 hs hl hn
  obtain ⟨H, hH⟩ : ∃ H, w.heap.size = H := ⟨_, rfl⟩
  rw [hH] at z0
  go_enter Tryz.func102, Tryz.ntmps102
  go_wp2
  obtain ⟨W0, hW0⟩ : ∃ W, w.alloc (.cells #[.slice a n cap, .int .i64 wear, .bool bad] 82) = W := ⟨_, rfl⟩
  rw [hW0] at z0 HB HT ⊢
  clear hW0
  try rw [hH]
  go_loopw [3, 4] (fun c i wr => ∃ (k : Nat) (m : Nat), k ≤ n ∧ i = .int .i64 k ∧ c = .int .i64 m ∧ m ≤ k ∧ Hid (nextP ((ps.take k).map PgR.D) = m) ∧ wr = W0) (fun _ i _ => n - (intOf i).toNat)
  case atStart => exact ⟨0, 0, Nat.zero_le _, rfl, rfl, Nat.le_refl _, rfl, rfl⟩
  case round =>
    obtain ⟨k, m, hk, rfl, rfl, hmk, hm, hw⟩ := hrel
    subst hw
    have t0 := z0.cell 0
    simp at t0
    by_cases hkn : k < n
    · have hki : (k : Int) < (n : Int) := by omega
      obtain ⟨r, hrk⟩ : ∃ r, ps[k]? = some r := ⟨_, List.getElem?_eq_getElem (by rw [hln.out]; exact hkn)⟩
      obtain ⟨b, off, rfl, hlt, hc⟩ := RdPs.lt HT.out (by intro h; rw [h] at hrk; simp at hrk)
      obtain ⟨⟨x0, x1⟩, _⟩ := hc k _ hrk
      have hnx := nextP_take hrk
      have hmm := hm.out
      cases hu : r.used
      · rw [hu] at x0 hnx
        have HN : Hid (nextP ((ps.take (k + 1)).map PgR.D) = m) := by show _ = _; rw [hnx, hmm]; rfl
        clear hnx hmm hrk x1 hu hc
        go_wp2
        go_roundw
        case rel => exact ⟨k + 1, m, by omega, by go_num, rfl, by omega, HN, trivial⟩
        case measure => simp [intOf]; omega
      · rw [hu] at x0 hnx
        have HN : Hid (nextP ((ps.take (k + 1)).map PgR.D) = m + 1) := by show _ = _; rw [hnx, hmm]; rfl
        clear hnx hmm hrk x1 hu hc
        go_wp2
        go_roundw
        case rel => exact ⟨k + 1, m + 1, by omega, by go_num, by go_num, by omega, HN, trivial⟩
        case measure => simp [intOf]; omega
    · have hki : ¬ (k : Int) < (n : Int) := by omega
      go_wp2
      go_ret
      have := hm.out
      rw [List.take_of_length_le (by rw [hln.out]; omega)] at this
      rw [← hH]
      exact ⟨by rw [this]; rfl, HB.out⟩
set_option maxRecDepth 100000 in
set_option maxHeartbeats 4000000 in
theorem writtenI (a : Option Addr) (n cap : Nat) (ps : List PgR) (w : World) (hn : ps.length = n) (hs : totP (ps.map PgR.D) ≤ 1048576) (hr : RdPs w a ps) :
    Calls Tryz.prog 55 #[.slice a n cap] w fun e w' => e = .returned (.int .i64 (nextP (ps.map PgR.D) : Nat)) ∧ Below w.heap.size w w' := by
  have HT : Hid (RdPs w a ps) := hr
  have hl := totP_len (ps.map PgR.D)
  have hn1 : n ≤ 1048576 := by simp at hl; omega
  have hln : Hid (ps.length = n) := hn
  clear hr hs hl hn
  go_enter Tryz.func55, Tryz.ntmps55
  go_wp2
  go_loopw [3, 8] (fun c i wr => ∃ (k : Nat) (m : Nat), k ≤ n ∧ i = .int .i64 k ∧ c = .int .i64 m ∧ m ≤ k ∧ Hid (nextP ((ps.take k).map PgR.D) = m) ∧ Hid (Below w.heap.size w wr)) (fun _ i _ => n - (intOf i).toNat)
  case atStart => exact ⟨0, 0, Nat.zero_le _, rfl, rfl, Nat.le_refl _, rfl, Below.refl _ _⟩
  case round =>
    obtain ⟨k, m, hk, rfl, rfl, hmk, hm, hB⟩ := hrel
    by_cases hkn : k < n
    · have hki : (k : Int) < (n : Int) := by omega
      obtain ⟨r, hrk⟩ : ∃ r, ps[k]? = some r := ⟨_, List.getElem?_eq_getElem (by rw [hln.out]; exact hkn)⟩
      obtain ⟨b, off, rfl, hlt, hc⟩ := RdPs.lt (HT.out.keep hB.out) (by intro h; rw [h] at hrk; simp at hrk)
      obtain ⟨⟨x0, x1⟩, _⟩ := hc k _ hrk
      have hnx := nextP_take hrk
      have hmm := hm.out
      obtain ⟨n1, hn1⟩ : ∃ n1, r.zs.length = n1 := ⟨_, rfl⟩
      rw [hn1] at x1
      have hB' : Hid (∀ o : Obj, Below w.heap.size w (wr.alloc o)) := fun o => hB.out.alloc hB.out.size o
      cases hu : r.used
      · rw [hu] at x0 hnx
        have HN : Hid (nextP ((ps.take (k + 1)).map PgR.D) = m) := by show _ = _; rw [hnx, hmm]; rfl
        clear hnx hmm hrk hu hc hn1
        go_wp2
        go_roundw
        case rel => exact ⟨k + 1, m, by omega, by go_num, rfl, by omega, HN, hB'.out _⟩
        case measure => simp [intOf]; omega
      · rw [hu] at x0 hnx
        have HN : Hid (nextP ((ps.take (k + 1)).map PgR.D) = m + 1) := by show _ = _; rw [hnx, hmm]; rfl
        clear hnx hmm hrk hu hc hn1
        go_wp2
        go_roundw
        case rel => exact ⟨k + 1, m + 1, by omega, by go_num, by go_num, by omega, HN, hB'.out _⟩
        case measure => simp [intOf]; omega
    · have hki : ¬ (k : Int) < (n : Int) := by omega
      go_wp2
      go_ret
      have := hm.out
      rw [List.take_of_length_le (by rw [hln.out]; omega)] at this
      exact ⟨by rw [this]; rfl, hB.out⟩
/-- What NextPage answers. -/
def nextD (ds : List BkD) (x : Int) : Int := if 0 ≤ x then (match ds[x.toNat]? with | some b => (nextP b.ps : Nat) | none => -1) else -1
theorem nextD_in {bs : List BkR} {k : Nat} {r : BkR} (h : bs[k]? = some r) : nextD (bs.map BkR.D) (k : Int) = (nextP (r.ps.map PgR.D) : Nat) := by
  unfold nextD
  rw [if_pos (by omega)]
  simp [h, BkR.D]
theorem nextD_out {ds : List BkD} {x : Int} (h : ¬ (0 ≤ x ∧ x < (ds.length : Int))) : nextD ds x = -1 := by
  unfold nextD
  split
  · rw [List.getElem?_eq_none (by omega)]
  · rfl
set_option maxRecDepth 100000 in
set_option maxHeartbeats 4000000 in
theorem nextS (a : Option Addr) (n cap : Nat) (bs : List BkR) (x : Int) (w : World) (ht : CR w a n bs) :
    Calls Tryz.prog 71 #[.agg #[.slice a n cap], .int .i64 x] w fun e w' => e = .returned (.int .i64 (nextD (bs.map BkR.D) x)) ∧ Below w.heap.size w w' := by
  have B0 : Below w.heap.size w (w.alloc (.cells #[.slice a n cap] 34)) := (Below.refl _ w).alloc (Nat.le_refl _) _
  have hn1 := ht.n
  by_cases hx : 0 ≤ x ∧ x < (n : Int)
  · obtain ⟨k, rfl⟩ : ∃ k : Nat, x = (k : Int) := ⟨x.toNat, by omega⟩
    have hkn : k < n := by omega
    have h1 : ¬ (k : Int) < 0 := by omega
    have h2 : ¬ (n : Int) ≤ (k : Int) := by omega
    have hki : (k : Int) < (n : Int) := by omega
    obtain ⟨b, off, r, rfl, hlt, hrk, x3, hrp, htp⟩ := (ht.keep B0).some hkn
    obtain ⟨x0, x1, x2⟩ := x3
    have hcall := l10NextS r.a r.ps.length r.cap r.wear r.bad r.ps _ rfl htp hrp
    have hnx := nextD_in hrk
    rw [hnx]
    obtain ⟨n1, hn1⟩ : ∃ n1, r.ps.length = n1 := ⟨_, rfl⟩
    rw [hn1] at x0 hcall
    have HB : Hid _ := B0
    clear hnx hrk hn1 ht B0 hrp
    go_enter Tryz.func71, Tryz.ntmps71
    go_wp2_with fail
    refine hcall.mono ?_
    rintro e w1 ⟨rfl, hb1⟩
    clear hcall x0 x1 x2
    go_wp2
    go_ret
    exact ⟨rfl, HB.out.trans (hb1.mono HB.out.size)⟩
  · have hnx : nextD (bs.map BkR.D) x = -1 := nextD_out (by simpa [ht.len] using hx)
    rw [hnx]
    by_cases h1 : x < 0
    · go_enter Tryz.func71, Tryz.ntmps71
      go_wp2
      go_ret
      exact ⟨rfl, B0⟩
    · have h2 : (n : Int) ≤ x := by omega
      go_enter Tryz.func71, Tryz.ntmps71
      go_wp2
      go_ret
      exact ⟨rfl, B0⟩
set_option maxHeartbeats 1600000 in
theorem hasBk (a : Option Addr) (n cap : Nat) (x : Int) (w : World) (_hn : n ≤ 1048576) :
    Calls Tryz.prog 54 #[.slice a n cap, .int .i64 x] w fun e w' => e = .returned (.bool (decide (0 ≤ x) && decide (x < (n : Int)))) ∧ w' = w := by
  go_enter Tryz.func54, Tryz.ntmps54
  by_cases h1 : 0 ≤ x
  · by_cases h2 : x < (n : Int)
    · go_wp2
      go_ret
      exact ⟨by simp [h1, h2], rfl⟩
    · go_wp2
      go_ret
      exact ⟨by simp [h2], rfl⟩
  · go_wp2
    go_ret
    exact ⟨by simp; omega, rfl⟩
set_option maxRecDepth 100000 in
set_option maxHeartbeats 4000000 in
theorem nextI (a : Option Addr) (n cap : Nat) (bs : List BkR) (x : Int) (w : World) (ht : CR w a n bs) :
    Calls Tryz.prog 23 #[.agg #[.slice a n cap], .int .i64 x] w fun e w' => e = .returned (.int .i64 (nextD (bs.map BkR.D) x)) ∧ Below w.heap.size w w' := by
  have B0 : Below w.heap.size w (w.alloc (.cells #[.slice a n cap] 34)) := (Below.refl _ w).alloc (Nat.le_refl _) _
  have hn1 := ht.n
  by_cases hx : 0 ≤ x ∧ x < (n : Int)
  · obtain ⟨k, rfl⟩ : ∃ k : Nat, x = (k : Int) := ⟨x.toNat, by omega⟩
    have hkn : k < n := by omega
    have hki : (k : Int) < (n : Int) := by omega
    have hd : (decide (0 ≤ (k : Int)) && decide ((k : Int) < (n : Int))) = true := by simp [hki]
    obtain ⟨b, off, r, rfl, hlt, hrk, x3, hrp, htp⟩ := (ht.keep B0).some hkn
    obtain ⟨x0, x1, x2⟩ := x3
    have hcall := writtenI r.a r.ps.length r.cap r.ps _ rfl htp hrp
    have hnx := nextD_in hrk
    rw [hnx]
    obtain ⟨n1, hn1⟩ : ∃ n1, r.ps.length = n1 := ⟨_, rfl⟩
    rw [hn1] at x0 hcall
    have HB : Hid _ := B0
    have hh := hasBk (some ⟨b, off, none⟩) n cap (k : Int) (w.alloc (.cells #[.slice (some ⟨b, off, none⟩) n cap] 34)) (by omega)
    rw [hd] at hh
    clear hnx hrk hn1 ht B0 hrp hd
    go_enter Tryz.func23, Tryz.ntmps23
    go_wp2_with fail
    refine hh.mono ?_
    rintro e w1 ⟨rfl, hw⟩
    obtain rfl := hw.symm
    go_wp2_with fail
    refine hcall.mono ?_
    rintro e w1 ⟨rfl, hb1⟩
    clear hcall x0 x1 x2
    go_wp2
    go_ret
    exact ⟨rfl, HB.out.trans (hb1.mono HB.out.size)⟩
  · have hnx : nextD (bs.map BkR.D) x = -1 := nextD_out (by simpa [ht.len] using hx)
    rw [hnx]
    have hd : (decide (0 ≤ x) && decide (x < (n : Int))) = false := by
      by_cases h1 : 0 ≤ x
      · have : ¬ x < (n : Int) := by omega
        simp [this]
      · simp [h1]
    have hh := hasBk a n cap x (w.alloc (.cells #[.slice a n cap] 34)) (by omega)
    rw [hd] at hh
    clear hd hnx ht
    go_enter Tryz.func23, Tryz.ntmps23
    go_wp2_with fail
    refine hh.mono ?_
    rintro e w1 ⟨rfl, hw⟩
    obtain rfl := hw.symm
    go_wp2
    go_ret
    exact ⟨rfl, B0⟩
end

section
open Go.RowKit
/-- A fault. -/
structure FtD where
  tm : Int
  kd : Int
  kp : Int
deriving Inhabited
def ftE : El FtD := ⟨3, by omega, fun f => [.int .i64 f.tm, .int .i64 f.kd, .int .i64 f.kp], fun _ => rfl⟩
def RdFa (w : World) (a : Option Addr) (fs : List FtD) : Prop := RdE ftE (fun _ => True) w a fs
theorem RdFa.keep {w w' : World} {a : Option Addr} {fs : List FtD} (h : RdFa w a fs) (hb : Below w.heap.size w w') : RdFa w' a fs := RdE.mono h hb fun _ _ hr => hr
/-- The cells of a fault. -/
structure ThreeF (w : World) (b off : Nat) (r : FtD) : Prop where
  c0 : w.cell? ⟨b, off, none⟩ = some (.int .i64 r.tm)
  c1 : w.cell? ⟨b, off + 1, none⟩ = some (.int .i64 r.kd)
  c2 : w.cell? ⟨b, off + 2, none⟩ = some (.int .i64 r.kp)
theorem ThreeF.keep {w w' : World} {b off B : Nat} {r : FtD} (h : ThreeF w b off r) (hb : Below B w w') (hlt : b < B) : ThreeF w' b off r := ⟨(hb.cell hlt).trans h.c0, (hb.cell hlt).trans h.c1, (hb.cell hlt).trans h.c2⟩
theorem RdFa.lt {w : World} {a : Option Addr} {fs : List FtD} (h : RdFa w a fs) (hz : fs ≠ []) : ∃ b off, a = some ⟨b, off, none⟩ ∧ b < w.heap.size ∧ ∀ i r, fs[i]? = some r → ThreeF w b (off + i * 3) r := by
  obtain ⟨b, off, h1, h2, h3⟩ := RdE.lt h hz
  exact ⟨b, off, h1, h2, fun i p hi => ⟨(h3 i p hi).1 0 (by decide), (h3 i p hi).1 1 (by decide), (h3 i p hi).1 2 (by decide)⟩⟩
/-- Faults that can be read. -/
structure FR (w : World) (a : Option Addr) (m : Nat) (fs : List FtD) : Prop where
  len : fs.length = m
  tot : m ≤ 1048576
  rd : RdFa w a fs
theorem FR.keep {w w' : World} {a : Option Addr} {m : Nat} {fs : List FtD} (h : FR w a m fs) (hb : Below w.heap.size w w') : FR w' a m fs := ⟨h.len, h.tot, h.rd.keep hb⟩
theorem FR.some {w : World} {a : Option Addr} {m k : Nat} {fs : List FtD} (h : FR w a m fs) (hk : k < m) : ∃ b off r, a = some ⟨b, off, none⟩ ∧ b < w.heap.size ∧ fs[k]? = .some r ∧ ThreeF w b (off + k * 3) r := by
  have hl := h.len
  have hrk : fs[k]? = .some fs[k] := List.getElem?_eq_getElem (by omega)
  obtain ⟨b, off, e, hlt, hc⟩ := h.rd.lt (by intro h0; subst h0; simp at hl; omega)
  exact ⟨b, off, fs[k], e, hlt, hrk, hc k _ hrk⟩
/-- Faults of the call's own. -/
def OwnFa (w : World) (v : Value) (m : Nat) (fs : List FtD) : Prop := OwnE ftE 54 w v m fs
theorem OwnFa.rd {w : World} {a : Option Addr} {c n m : Nat} {fs : List FtD} (h : OwnFa w (.slice a n c) m fs) : RdFa w a fs := by
  obtain ⟨a', c', e, r⟩ := OwnE.rd (rd := fun _ => True) h (fun _ _ => trivial)
  simp only [Value.slice.injEq] at e
  rw [e.1]; exact r
set_option maxHeartbeats 1600000 in
theorem szFaultS_w (a : Option Addr) (n cap x : Nat) (w : World) (hm : n ≤ maxLen) (hx : x ≤ 1048576) :
    Calls Tryz.prog 65 #[.slice a n cap, .int .i64 x] w fun e w' => SzQ x n True e ∧ w' = w := by
  unfold maxLen at hm
  by_cases h : x < n
  · have h1 : ((x : Int) - (n : Int)) < 0 := by omega
    go_enter Tryz.func65, Tryz.ntmps65
    go_wp2
    go_ret
    exact ⟨.inl rfl, rfl⟩
  · have h1 : ¬ ((x : Int) - (n : Int)) < 0 := by omega
    go_enter Tryz.func65, Tryz.ntmps65
    go_wp2
    go_ret
    exact ⟨.inr ⟨x - n, by omega, ret_int (by omega), trivial⟩, rfl⟩
set_option maxHeartbeats 1600000 in
theorem szDev_w (a : Option Addr) (n cap x : Nat) (bs : List BkR) (ops : Int) (fa : Option Addr) (m fc : Nat) (down : Bool) (w : World) (hn : bs.length = n) (hm : n ≤ maxLen) (hfm : m ≤ maxLen) (hx : x ≤ 1048576) (hin : ∀ r ∈ bs, BkIn r) (hr : RdBs w a bs) :
    Calls Tryz.prog 31 #[.agg #[.slice a n cap, .int .i64 ops, .slice fa m fc, .bool down], .int .i64 x] w fun e w' => SzQ x (totB (bs.map BkR.D) + m) True e ∧ Below w.heap.size w w' := by
  have B0 : Below w.heap.size w (w.alloc (.cells #[.slice a n cap, .int .i64 ops, .slice fa m fc, .bool down] 27)) := (Below.refl _ w).alloc (Nat.le_refl _) _
  have z0 := Blk.new w 27 #[.slice a n cap, .int .i64 ops, .slice fa m fc, .bool down]
  have hcall := szChip_w a n cap x bs (w.alloc (.cells #[.slice a n cap, .int .i64 ops, .slice fa m fc, .bool down] 27)) hn hm hx hin (hr.keep B0)
  have HB : Hid _ := B0
  clear B0 hin hr hn
  go_enter Tryz.func31, Tryz.ntmps31
  go_wp2_with fail
  refine hcall.mono ?_
  rintro e w1 ⟨(rfl | ⟨v, hv, rfl, hzz⟩), hb1⟩
  · go_wp2
    go_ret
    exact ⟨.inl rfl, HB.out.trans (hb1.mono HB.out.size)⟩
  · have hv0 : ¬ (v : Int) < 0 := by omega
    have z1 := (z0.keep hb1).cell 2
    simp at z1
    have hcall2 := szFaultS_w fa m fc v w1 hfm (by omega)
    go_wp2_with fail
    refine hcall2.mono ?_
    rintro e w2 ⟨(rfl | ⟨v2, hv2, rfl, hzz2⟩), hw⟩
    · obtain rfl := hw.symm
      go_wp2
      go_ret
      exact ⟨.inl rfl, HB.out.trans (hb1.mono HB.out.size)⟩
    · obtain rfl := hw.symm
      have hv1 : ¬ (v2 : Int) < 0 := by omega
      go_wp2
      go_ret
      exact ⟨.inr ⟨v2, by omega, rfl, trivial⟩, HB.out.trans (hb1.mono HB.out.size)⟩
set_option maxHeartbeats 1600000 in
theorem toFault_any (t k m : Int) (w : World) :
    Calls Tryz.prog 109 #[.agg #[.int .i64 t, .int .i64 k, .int .i64 m]] w fun e w' => e = .returned (.agg #[.int .i64 t, .int .i64 k, .int .i64 m]) ∧ Below w.heap.size w w' := by
  have B0 : Below w.heap.size w (((w.alloc (.cells #[.int .i64 t, .int .i64 k, .int .i64 m] 134)).alloc (.cells #[.int .i64 0, .int .i64 0, .int .i64 0] 54)).alloc (.cells #[.int .i64 0, .int .i64 0, .int .i64 0] 54)) := (((Below.refl _ w).alloc (Nat.le_refl _) _).alloc (by simp) _).alloc (by simp; omega) _
  obtain ⟨H, hH⟩ : ∃ H, w.heap.size = H := ⟨_, rfl⟩
  have t0 : Blk (((w.alloc (.cells #[.int .i64 t, .int .i64 k, .int .i64 m] 134)).alloc (.cells #[.int .i64 0, .int .i64 0, .int .i64 0] 54)).alloc (.cells #[.int .i64 0, .int .i64 0, .int .i64 0] 54)) w.heap.size 134 #[.int .i64 t, .int .i64 k, .int .i64 m] := ((Blk.new w 134 _).alloc _).alloc _
  have t1 := (Blk.new (w.alloc (.cells #[.int .i64 t, .int .i64 k, .int .i64 m] 134)) 54 #[.int .i64 0, .int .i64 0, .int .i64 0]).alloc (.cells #[.int .i64 0, .int .i64 0, .int .i64 0] 54)
  have t2 := Blk.new ((w.alloc (.cells #[.int .i64 t, .int .i64 k, .int .i64 m] 134)).alloc (.cells #[.int .i64 0, .int .i64 0, .int .i64 0] 54)) 54 #[.int .i64 0, .int .i64 0, .int .i64 0]
  simp only [World.size_alloc] at t1 t2
  go_enter Tryz.func109, Tryz.ntmps109
  obtain ⟨W0, hW0⟩ : ∃ W, ((w.alloc (.cells #[.int .i64 t, .int .i64 k, .int .i64 m] 134)).alloc (.cells #[.int .i64 0, .int .i64 0, .int .i64 0] 54)).alloc (.cells #[.int .i64 0, .int .i64 0, .int .i64 0] 54) = W := ⟨_, rfl⟩
  rw [hW0] at B0 t0 t1 t2
  rw [hH] at t0 t1 t2 B0
  have a0 := t0.cell 0
  have a1 := t0.cell 1
  have a2 := t0.cell 2
  have c0 := t2.cell 0
  have c1 := t2.cell 1
  have c2 := t2.cell 2
  have f0 := t2.frozen 0
  have f1 := t2.frozen 1
  have f2 := t2.frozen 2
  have v2 := ((t2.set 0 (.int .i64 t)).set 1 (.int .i64 k)).set 2 (.int .i64 m)
  have v1 := ((t1.other (B' := H + 1 + 1) (by omega) 0 (.int .i64 t)).other (B' := H + 1 + 1) (by omega) 1 (.int .i64 k)).other (B' := H + 1 + 1) (by omega) 2 (.int .i64 m)
  have d0 := v2.cell 0
  have d1 := v2.cell 1
  have d2 := v2.cell 2
  have g0 := v1.cell 0
  have g1 := v1.cell 1
  have g2 := v1.cell 2
  have h0 := v1.frozen 0
  have h1 := v1.frozen 1
  have h2 := v1.frozen 2
  have r0 := (((v1.set 0 (.int .i64 t)).set 1 (.int .i64 k)).set 2 (.int .i64 m)).cell 0
  have r1 := (((v1.set 0 (.int .i64 t)).set 1 (.int .i64 k)).set 2 (.int .i64 m)).cell 1
  have r2 := (((v1.set 0 (.int .i64 t)).set 1 (.int .i64 k)).set 2 (.int .i64 m)).cell 2
  simp at a0 a1 a2 c0 c1 c2 d0 d1 d2 g0 g1 g2 r0 r1 r2
  have HO : Hid (Below H w W0) := B0
  clear B0 v1 v2 t0 t1 t2
  go_wp2
  refine bodyPost_ret (v := .agg #[.int .i64 t, .int .i64 k, .int .i64 m]) (by simp [results, Tryz.f109, go_sem, r0, r1, r2]) rfl ?_
  have B2 := HO.out
  have s : ∀ (W : World) (j i : Nat) (v : Value), H ≤ j → Below H w W → Below H w (W.setCell ⟨j, i, none⟩ v) := fun W j i v hj hb => hb.setCell (p := ⟨j, i, none⟩) hj v
  refine ⟨rfl, ?_⟩
  rw [hH]
  exact s _ _ _ _ (by omega) (s _ _ _ _ (by omega) (s _ _ _ _ (by omega) (s _ _ _ _ (by omega) (s _ _ _ _ (by omega) (s _ _ _ _ (by omega) B2)))))
def ftZ : FtD := ⟨0, 0, 0⟩
theorem Tryz.infoFault : (Tryz.prog.info? 54).map (fun i => (i.zero, i.size, i.bytes)) = some (some (.agg #[.int .i64 0, .int .i64 0, .int .i64 0]), 3, 24) := by kernel_rfl
theorem made_ownFa {w : World} {g n : Nat} (h : w.ownsRow 0 54 3 (.slice (some ⟨g, 0, none⟩) n n) n (madeCells (Value.agg #[.int .i64 0, .int .i64 0, .int .i64 0]).cells (n * 3)).toList) : OwnE ftE 54 w (.slice (some ⟨g, 0, none⟩) n n) n (List.replicate n ftZ) := made_row ftE ftZ (.agg #[.int .i64 0, .int .i64 0, .int .i64 0]) rfl h
set_option maxHeartbeats 3200000 in
theorem toFaultS_any (a : Option Addr) (n cap : Nat) (fs : List FtD) (w : World) (hr : FR w a n fs) :
    Calls Tryz.prog 74 #[.slice a n cap] w fun e w' => e = .returned (.slice (some ⟨w.heap.size, 0, none⟩) n n) ∧ OwnFa w' (.slice (some ⟨w.heap.size, 0, none⟩) n n) n fs ∧ Below w.heap.size w w' := by
  obtain ⟨i0, hi, hz0, hz1, hz2⟩ := info_parts Tryz.infoFault
  have hnn := hr.tot
  have hm : n ≤ maxLen := by unfold maxLen; omega
  have hby : i0.bytes * n ≤ 281474976710656 := by rw [hz2]; omega
  have HR : Hid (FR w a n fs) := hr
  clear hr
  go_enter Tryz.func74, Tryz.ntmps74
  go_wp2_with (at_make; refine wpList_make_full _ rfl (.tmp 6) (.tmp 6) 35 rfl 0 54 i0 (.agg #[.int .i64 0, .int .i64 0, .int .i64 0]) 3 Tryz.underlying35 hi hz0 hz1 .i64 .i64 _ _ n rfl rfl rfl rfl hby hm (Nat.zero_le _) ?_; intro w1 hown hgrow)
  have ho := made_ownFa hown
  have hB : Below w.heap.size w w1 := (Below.refl _ _).grown hgrow (Nat.le_refl _) (by simp)
  clear hown hgrow
  go_loopw [4] (fun i wr => ∃ (k : Nat) (us : List FtD), k ≤ n ∧ i = .int .i64 k ∧ us.length = k ∧ Hid (us = fs.take k) ∧ OwnE ftE 54 wr (.slice (some ⟨w.heap.size, 0, none⟩) n n) n (us ++ List.replicate (n - k) ftZ) ∧ Below w.heap.size w wr) (fun i _ => n - (intOf i).toNat)
  case atStart => exact ⟨0, [], Nat.zero_le _, rfl, rfl, rfl, ho, hB⟩
  case round =>
    obtain ⟨k, us, hk, rfl, htk, hcp, hown, hbel⟩ := hrel
    clear ho hB
    by_cases hkn : k < n
    · have hki : (k : Int) < (n : Int) := by omega
      obtain ⟨b, off, r, rfl, hlt, hrk, x6⟩ := HR.out.some hkn
      have hcp' : Hid (us ++ [r] = fs.take (k + 1)) := by show _ = _; rw [List.take_add_one, hrk, hcp.out]; rfl
      obtain ⟨x0, x1, x2⟩ := x6.keep hbel hlt
      obtain ⟨rt, rk, rm⟩ := r
      dsimp only at x0 x1 x2
      have hcall := toFault_any rt rk rm wr
      have hwz := hbel.size
      clear x6 hrk
      go_wp2_with fail
      refine hcall.mono ?_
      rintro e w1 ⟨rfl, hb1⟩
      have ho1 := hown.keep hb1
      have hlc := ho1.lt (g := w.heap.size) rfl
      have hzk : (us ++ List.replicate (n - k) ftZ)[k]? = some ftZ := list_mid us ftZ (n - k) k htk (by omega)
      have q0 := ho1.cell k 0 ftZ hzk (by decide)
      have q1 := ho1.cell k 1 ftZ hzk (by decide)
      have q2 := ho1.cell k 2 ftZ hzk (by decide)
      have f0 := ho1.frozen (k * 3)
      have f1 := ho1.frozen (k * 3 + 1)
      have f2 := ho1.frozen (k * 3 + 2)
      have s0 := ho1.set k 0 ftZ ⟨rt, 0, 0⟩ (.int .i64 rt) hzk (by decide) (by simp [ftE, ftZ])
      have hzk1 : ((us ++ List.replicate (n - k) ftZ).set k ⟨rt, 0, 0⟩)[k]? = some ⟨rt, 0, 0⟩ := by
        rw [List.getElem?_set_self (by simp; omega)]
      have s1 := s0.set k 1 ⟨rt, 0, 0⟩ ⟨rt, rk, 0⟩ (.int .i64 rk) hzk1 (by decide) (by simp [ftE])
      rw [set_set_at] at s1
      have hzk2 : ((us ++ List.replicate (n - k) ftZ).set k ⟨rt, rk, 0⟩)[k]? = some ⟨rt, rk, 0⟩ := by
        rw [List.getElem?_set_self (by simp; omega)]
      have s2 := s1.set k 2 ⟨rt, rk, 0⟩ ⟨rt, rk, rm⟩ (.int .i64 rm) hzk2 (by decide) (by simp [ftE])
      rw [set_set_at, show (us ++ List.replicate (n - k) ftZ).set k ⟨rt, rk, rm⟩ = (us ++ [⟨rt, rk, rm⟩]) ++ List.replicate (n - (k + 1)) ftZ by rw [← htk, set_mid us _ _ _ (by omega), htk, show n - k - 1 = n - (k + 1) by omega]] at s2
      have hgr : w1.grownBy (((w1.setCell ⟨w.heap.size, k * 3, none⟩ (.int .i64 rt)).setCell ⟨w.heap.size, k * 3 + 1, none⟩ (.int .i64 rk)).setCell ⟨w.heap.size, k * 3 + 2, none⟩ (.int .i64 rm)) (some w.heap.size) := gr_more (gr_more (gr_setC w1 w.heap.size (k * 3) _) _ _) _ _
      have hbel1 : Below w.heap.size w w1 := hbel.trans (hb1.mono hwz)
      have hbel' := hbel1.grown hgr hbel1.size (by intro g hg; simp at hg; omega)
      have hl' : (us ++ [⟨rt, rk, rm⟩] : List FtD).length = k + 1 := by simp [htk]
      have q0' : w1.cell? ⟨w.heap.size, k * 3, none⟩ = some (.int .i64 0) := q0
      have q1' : w1.cell? ⟨w.heap.size, k * 3 + 1, none⟩ = some (.int .i64 0) := q1
      have q2' : w1.cell? ⟨w.heap.size, k * 3 + 2, none⟩ = some (.int .i64 0) := q2
      have S1 : Hid _ := s2
      clear hown hbel hcp ho1 hb1 hbel1 hgr hcall hzk hzk1 hzk2 s0 s1 s2 q0 q1 q2
      go_wp2
      go_roundw
      case rel => exact ⟨k + 1, _, by omega, by go_num, hl', hcp', S1.out, hbel'⟩
      case measure => simp [intOf]; omega
    · go_wp2
      go_ret
      obtain rfl : k = n := by omega
      have := hcp.out
      rw [List.take_of_length_le (by rw [HR.out.len]; omega)] at this
      rw [Nat.sub_self, List.replicate_zero, List.append_nil, this] at hown
      exact ⟨rfl, hown, hbel⟩
set_option maxHeartbeats 1600000 in
theorem eqFault_same (t k m : Int) (w : World) :
    Calls Tryz.prog 119 #[.agg #[.int .i64 t, .int .i64 k, .int .i64 m], .agg #[.int .i64 t, .int .i64 k, .int .i64 m]] w fun e w' => e = .returned (.bool true) ∧ Below w.heap.size w w' := by
  have B0 : Below w.heap.size w ((w.alloc (.cells #[.int .i64 t, .int .i64 k, .int .i64 m] 54)).alloc (.cells #[.int .i64 t, .int .i64 k, .int .i64 m] 54)) := ((Below.refl _ w).alloc (Nat.le_refl _) _).alloc (by simp) _
  have z0 := (Blk.new w 54 #[.int .i64 t, .int .i64 k, .int .i64 m]).alloc (.cells #[.int .i64 t, .int .i64 k, .int .i64 m] 54)
  have z1 := Blk.new (w.alloc (.cells #[.int .i64 t, .int .i64 k, .int .i64 m] 54)) 54 #[.int .i64 t, .int .i64 k, .int .i64 m]
  simp only [World.size_alloc] at z1
  have e0 : (t != t) = false := by simp
  have e1 : (k != k) = false := by simp
  have e2 : (m != m) = false := by simp
  obtain ⟨q0, q1, q2⟩ : _ ∧ _ ∧ _ := ⟨z0.cell 0, z0.cell 1, z0.cell 2⟩
  obtain ⟨p0, p1, p2⟩ : _ ∧ _ ∧ _ := ⟨z1.cell 0, z1.cell 1, z1.cell 2⟩
  simp at q0 q1 q2 p0 p1 p2
  have HB : Hid _ := B0
  clear z0 z1 B0
  go_enter Tryz.func119, Tryz.ntmps119
  go_wp2
  go_ret
  exact ⟨rfl, HB.out⟩
set_option maxHeartbeats 3200000 in
theorem eqFaultS_same (a a' : Option Addr) (n cap cap' : Nat) (fs : List FtD) (w : World) (hr : FR w a n fs) (hr' : FR w a' n fs) :
    Calls Tryz.prog 80 #[.slice a n cap, .slice a' n cap'] w fun e w' => e = .returned (.bool true) ∧ Below w.heap.size w w' := by
  have hnn := hr.tot
  have HR : Hid (FR w a n fs) := hr
  have HR' : Hid (FR w a' n fs) := hr'
  clear hr hr'
  go_enter Tryz.func80, Tryz.ntmps80
  go_wp2
  go_loopw [5] (fun i wr => ∃ k : Nat, k ≤ n ∧ i = .int .i64 k ∧ Below w.heap.size w wr) (fun i _ => n - (intOf i).toNat)
  case atStart => exact ⟨0, Nat.zero_le _, rfl, Below.refl _ _⟩
  case round =>
    obtain ⟨k, hk, rfl, hB⟩ := hrel
    by_cases hkn : k < n
    · have hki : (k : Int) < (n : Int) := by omega
      obtain ⟨b, off, r, rfl, hlt, hrk, x6⟩ := HR.out.some hkn
      obtain ⟨b', off', r', rfl, hlt', hrk', y6⟩ := HR'.out.some hkn
      obtain rfl : r' = r := by rw [hrk] at hrk'; simpa using hrk'.symm
      have hcd := eqFault_same r'.tm r'.kd r'.kp wr.drew
      obtain ⟨x0, x1, x2⟩ := x6.keep hB hlt
      obtain ⟨y0, y1, y2⟩ := y6.keep hB hlt'
      have hwz := hB.size
      clear x6 y6 hrk hrk'
      go_wp2
      go_region_with ((go_at_call 119; (with_reducible refine hcd.mono ?_); rintro e w1 ⟨rfl, hb1⟩))
      all_goals go_wp2
      all_goals go_roundw
      all_goals first
        | (case rel => exact ⟨k + 1, by omega, by go_num, hB.drew.trans (hb1.mono hwz)⟩)
        | (case measure => simp [intOf]; omega)
    · have hki : ¬ (k : Int) < (n : Int) := by omega
      go_wp2
      go_ret
      exact ⟨rfl, hB⟩
end

section
open Go.ChangeShapes Go.WideShapes Go.ChangeAt Go.RowKit
section
variable {H : Type} {enc : TypeId × Value → H} {w : World} {base : Nat} {held : Bool}
theorem list4 {α : Type} {l : List α} (h : l.length = 4) : ∃ a b c d, l = [a, b, c, d] := by
  match l, h with
  | [a, b, c, d], _ => exact ⟨a, b, c, d, rfl⟩
set_option maxRecDepth 100000 in
set_option maxHeartbeats 1000000 in
theorem open_fts {fuel : Nat} {cs : List Value} {x : DataW H × List MemPlace} (h : DataW.trod enc Tryz.prog w base (fun _ => true) held fuel 25 cs = some x) :
    ∃ (a : Option Addr) (cap : Nat) (es : List FtD), cs = [.slice a es.length cap] ∧ es.length ≤ maxLen ∧ RdFa w a es := by
  obtain ⟨a, cap, es, h1, h2, _, h3⟩ := open_row ftE (fun _ => True) (fun _ => True) Tryz.underlying25 (by kernel_rfl) (by
    intro n cs' y hy
    obtain ⟨xs, n, _, _, hl, hlen, hfld⟩ := DataW.trod_struct Tryz.underlying134 hy
    have hC : Tryz.prog.cellsOf 134 = 3 := by kernel_rfl
    have k3 : Tryz.prog.cellsOf 3 = 1 := by kernel_rfl
    rw [hC] at hl
    obtain ⟨v0, v1, v2, rfl⟩ := list3 hl
    obtain ⟨y0, y1, y2, rfl⟩ := list3 hlen
    have f0 := hfld 0 _ rfl
    have f1 := hfld 1 _ rfl
    have f2 := hfld 2 _ rfl
    simp [k3] at f0 f1 f2
    obtain ⟨t, e0, _, _⟩ := DataW.trod_int Tryz.underlying3 f0
    obtain ⟨k, e1, _, _⟩ := DataW.trod_int Tryz.underlying3 f1
    obtain ⟨m, e2, _, _⟩ := DataW.trod_int Tryz.underlying3 f2
    simp only [List.cons.injEq, and_true] at e0 e1 e2
    subst e0 e1 e2
    exact ⟨⟨t, k, m⟩, rfl, trivial, trivial⟩) h
  exact ⟨a, cap, es, h1, h2, h3⟩
end
end
end Go.Proofs.YtnhbhpbmnlojlaaGreatDoor
