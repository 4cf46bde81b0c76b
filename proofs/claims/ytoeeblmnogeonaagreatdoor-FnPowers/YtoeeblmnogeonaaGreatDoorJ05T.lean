/-
  Joined: ChFn, DvM, LogF, App10.
-/
import Derived.Test.YtoeeblmnogeonaaGreatDoorJ04T
import Derived.Deep.AppendSrc
namespace Go.Proofs.YtoeeblmnogeonaaGreatDoor
section
open Go.RowKit
/-- A chip that can be read. -/
structure CR (w : World) (a : Option Addr) (n : Nat) (bs : List BkR) : Prop where
  len : bs.length = n
  tot : totB (bs.map BkR.D) ≤ 1048576
  rd : RdBs w a bs
theorem CR.keep {w w' : World} {a : Option Addr} {n : Nat} {bs : List BkR} (h : CR w a n bs) (hb : Below w.heap.size w w') : CR w' a n bs := ⟨h.len, h.tot, h.rd.keep hb⟩
theorem CR.n {w : World} {a : Option Addr} {n : Nat} {bs : List BkR} (h : CR w a n bs) : n ≤ 1048576 := by
  have := totB_len (bs.map BkR.D)
  have h1 := h.tot
  have h2 := h.len
  simp at this
  omega
theorem CR.some {w : World} {a : Option Addr} {n k : Nat} {bs : List BkR} (h : CR w a n bs) (hk : k < n) : ∃ b off r, a = some ⟨b, off, none⟩ ∧ b < w.heap.size ∧ bs[k]? = .some r ∧ ThreeB w b (off + k * 3) r ∧ RdPs w r.a r.ps ∧ totP (r.ps.map PgR.D) ≤ 1048576 := by
  have hl := h.len
  have hrk : bs[k]? = .some bs[k] := List.getElem?_eq_getElem (by omega)
  obtain ⟨b, off, e, hlt, hc⟩ := h.rd.lt (by intro h0; subst h0; simp at hl; omega)
  have := totB_at hrk
  have h3 := h.tot
  exact ⟨b, off, bs[k], e, hlt, hrk, (hc k _ hrk).1, (hc k _ hrk).2, by omega⟩
/-- How many pages are written. -/
def nextP (ps : List PgD) : Nat := (ps.filter PgD.used).length
theorem nextP_snoc (ps : List PgD) (p : PgD) : nextP (ps ++ [p]) = nextP ps + (if p.used then 1 else 0) := by
  unfold nextP
  rw [List.filter_append]
  cases h : p.used <;> simp [h]
theorem nextP_take {ps : List PgR} {k : Nat} {p : PgR} (h : ps[k]? = some p) : nextP ((ps.take (k + 1)).map PgR.D) = nextP ((ps.take k).map PgR.D) + (if p.used then 1 else 0) := by
  rw [List.take_add_one, h]
  simp only [Option.toList_some, List.map_append, List.map_cons, List.map_nil]
  rw [nextP_snoc]
  rfl
theorem nextP_le (ps : List PgD) : nextP ps ≤ ps.length := List.length_filter_le _ _
set_option maxRecDepth 100000 in
set_option maxHeartbeats 4000000 in
theorem l10NextS (a : Option Addr) (n cap : Nat) (wear : Int) (bad : Bool) (ps : List PgR) (w : World) (hn : ps.length = n) (hs : totP (ps.map PgR.D) ≤ 1048576) (hr : RdPs w a ps) :
    Calls Tryz.prog 131 #[.agg #[.slice a n cap, .int .i64 wear, .bool bad]] w fun e w' => e = .returned (.int .i64 (nextP (ps.map PgR.D) : Nat)) ∧ Below w.heap.size w w' := by
  have B0 : Below w.heap.size w (w.alloc (.cells #[.slice a n cap, .int .i64 wear, .bool bad] 42)) := (Below.refl _ w).alloc (Nat.le_refl _) _
  have z0 := Blk.new w 42 #[.slice a n cap, .int .i64 wear, .bool bad]
  have HT : Hid (RdPs (w.alloc (.cells #[.slice a n cap, .int .i64 wear, .bool bad] 42)) a ps) := hr.keep B0
  have HB : Hid _ := B0
  have hl := totP_len (ps.map PgR.D)
  have hn1 : n ≤ 1048576 := by simp at hl; omega
  have hln : Hid (ps.length = n) := hn
  clear hr B0 hs hl hn
  obtain ⟨H, hH⟩ : ∃ H, w.heap.size = H := ⟨_, rfl⟩
  rw [hH] at z0
  go_enter Tryz.func131, Tryz.ntmps131
  go_wp2
  obtain ⟨W0, hW0⟩ : ∃ W, w.alloc (.cells #[.slice a n cap, .int .i64 wear, .bool bad] 42) = W := ⟨_, rfl⟩
  rw [hW0] at z0 HB HT ⊢
  clear hW0
  try rw [hH]
  go_loopw [3, 4] (fun c i wr => ∃ (k : Nat) (m : Nat), k ≤ n ∧ i = .int .i64 k ∧ c = .int .i64 m ∧ m ≤ k ∧ Hid (nextP ((ps.take k).map PgR.D) = m) ∧ wr = W0) (fun _ i _ => n - (intOf i).toNat)
  case atStart => exact ⟨0, 0, Nat.zero_le _, rfl, rfl, Nat.le_refl _, rfl, rfl⟩
  case round =>
    obtain ⟨k, m, hk, rfl, rfl, hmk, hm, hw⟩ := hrel
    subst hw
    have t0 := z0.cell 0
    simp at t0
    by_cases hkn : k < n
    · have hki : (k : Int) < (n : Int) := by omega
      obtain ⟨r, hrk⟩ : ∃ r, ps[k]? = some r := ⟨_, List.getElem?_eq_getElem (by rw [hln.out]; exact hkn)⟩
      obtain ⟨b, off, rfl, hlt, hc⟩ := RdPs.lt HT.out (by intro h; rw [h] at hrk; simp at hrk)
      obtain ⟨⟨x0, x1⟩, _⟩ := hc k _ hrk
      have hnx := nextP_take hrk
      have hmm := hm.out
      cases hu : r.used
      · rw [hu] at x0 hnx
        have HN : Hid (nextP ((ps.take (k + 1)).map PgR.D) = m) := by show _ = _; rw [hnx, hmm]; rfl
        clear hnx hmm hrk x1 hu hc
        go_wp2
        go_roundw
        case rel => exact ⟨k + 1, m, by omega, by go_num, rfl, by omega, HN, trivial⟩
        case measure => simp [intOf]; omega
      · rw [hu] at x0 hnx
        have HN : Hid (nextP ((ps.take (k + 1)).map PgR.D) = m + 1) := by show _ = _; rw [hnx, hmm]; rfl
        clear hnx hmm hrk x1 hu hc
        go_wp2
        go_roundw
        case rel => exact ⟨k + 1, m + 1, by omega, by go_num, by go_num, by omega, HN, trivial⟩
        case measure => simp [intOf]; omega
    · have hki : ¬ (k : Int) < (n : Int) := by omega
      go_wp2
      go_ret
      have := hm.out
      rw [List.take_of_length_le (by rw [hln.out]; omega)] at this
      rw [← hH]
      exact ⟨by rw [this]; rfl, HB.out⟩
set_option maxRecDepth 100000 in
set_option maxHeartbeats 4000000 in
theorem writtenI (a : Option Addr) (n cap : Nat) (ps : List PgR) (w : World) (hn : ps.length = n) (hs : totP (ps.map PgR.D) ≤ 1048576) (hr : RdPs w a ps) :
    Calls Tryz.prog 47 #[.slice a n cap] w fun e w' => e = .returned (.int .i64 (nextP (ps.map PgR.D) : Nat)) ∧ Below w.heap.size w w' := by
  have HT : Hid (RdPs w a ps) := hr
  have hl := totP_len (ps.map PgR.D)
  have hn1 : n ≤ 1048576 := by simp at hl; omega
  have hln : Hid (ps.length = n) := hn
  clear hr hs hl hn
  go_enter Tryz.func47, Tryz.ntmps47
  go_wp2
  go_loopw [3, 8] (fun c i wr => ∃ (k : Nat) (m : Nat), k ≤ n ∧ i = .int .i64 k ∧ c = .int .i64 m ∧ m ≤ k ∧ Hid (nextP ((ps.take k).map PgR.D) = m) ∧ Hid (Below w.heap.size w wr)) (fun _ i _ => n - (intOf i).toNat)
  case atStart => exact ⟨0, 0, Nat.zero_le _, rfl, rfl, Nat.le_refl _, rfl, Below.refl _ _⟩
  case round =>
    obtain ⟨k, m, hk, rfl, rfl, hmk, hm, hB⟩ := hrel
    by_cases hkn : k < n
    · have hki : (k : Int) < (n : Int) := by omega
      obtain ⟨r, hrk⟩ : ∃ r, ps[k]? = some r := ⟨_, List.getElem?_eq_getElem (by rw [hln.out]; exact hkn)⟩
      obtain ⟨b, off, rfl, hlt, hc⟩ := RdPs.lt (HT.out.keep hB.out) (by intro h; rw [h] at hrk; simp at hrk)
      obtain ⟨⟨x0, x1⟩, _⟩ := hc k _ hrk
      have hnx := nextP_take hrk
      have hmm := hm.out
      obtain ⟨n1, hn1⟩ : ∃ n1, r.zs.length = n1 := ⟨_, rfl⟩
      rw [hn1] at x1
      have hB' : Hid (∀ o : Obj, Below w.heap.size w (wr.alloc o)) := fun o => hB.out.alloc hB.out.size o
      cases hu : r.used
      · rw [hu] at x0 hnx
        have HN : Hid (nextP ((ps.take (k + 1)).map PgR.D) = m) := by show _ = _; rw [hnx, hmm]; rfl
        clear hnx hmm hrk hu hc hn1
        go_wp2
        go_roundw
        case rel => exact ⟨k + 1, m, by omega, by go_num, rfl, by omega, HN, hB'.out _⟩
        case measure => simp [intOf]; omega
      · rw [hu] at x0 hnx
        have HN : Hid (nextP ((ps.take (k + 1)).map PgR.D) = m + 1) := by show _ = _; rw [hnx, hmm]; rfl
        clear hnx hmm hrk hu hc hn1
        go_wp2
        go_roundw
        case rel => exact ⟨k + 1, m + 1, by omega, by go_num, by go_num, by omega, HN, hB'.out _⟩
        case measure => simp [intOf]; omega
    · have hki : ¬ (k : Int) < (n : Int) := by omega
      go_wp2
      go_ret
      have := hm.out
      rw [List.take_of_length_le (by rw [hln.out]; omega)] at this
      exact ⟨by rw [this]; rfl, hB.out⟩
/-- What NextPage answers. -/
def nextD (ds : List BkD) (x : Int) : Int := if 0 ≤ x then (match ds[x.toNat]? with | some b => (nextP b.ps : Nat) | none => -1) else -1
theorem nextD_in {bs : List BkR} {k : Nat} {r : BkR} (h : bs[k]? = some r) : nextD (bs.map BkR.D) (k : Int) = (nextP (r.ps.map PgR.D) : Nat) := by
  unfold nextD
  rw [if_pos (by omega)]
  simp [h, BkR.D]
theorem nextD_out {ds : List BkD} {x : Int} (h : ¬ (0 ≤ x ∧ x < (ds.length : Int))) : nextD ds x = -1 := by
  unfold nextD
  split
  · rw [List.getElem?_eq_none (by omega)]
  · rfl
set_option maxRecDepth 100000 in
set_option maxHeartbeats 4000000 in
theorem nextS (a : Option Addr) (n cap : Nat) (bs : List BkR) (x : Int) (w : World) (ht : CR w a n bs) :
    Calls Tryz.prog 106 #[.agg #[.slice a n cap], .int .i64 x] w fun e w' => e = .returned (.int .i64 (nextD (bs.map BkR.D) x)) ∧ Below w.heap.size w w' := by
  have B0 : Below w.heap.size w (w.alloc (.cells #[.slice a n cap] 26)) := (Below.refl _ w).alloc (Nat.le_refl _) _
  have hn1 := ht.n
  by_cases hx : 0 ≤ x ∧ x < (n : Int)
  · obtain ⟨k, rfl⟩ : ∃ k : Nat, x = (k : Int) := ⟨x.toNat, by omega⟩
    have hkn : k < n := by omega
    have h1 : ¬ (k : Int) < 0 := by omega
    have h2 : ¬ (n : Int) ≤ (k : Int) := by omega
    have hki : (k : Int) < (n : Int) := by omega
    obtain ⟨b, off, r, rfl, hlt, hrk, x3, hrp, htp⟩ := (ht.keep B0).some hkn
    obtain ⟨x0, x1, x2⟩ := x3
    have hcall := l10NextS r.a r.ps.length r.cap r.wear r.bad r.ps _ rfl htp hrp
    have hnx := nextD_in hrk
    rw [hnx]
    obtain ⟨n1, hn1⟩ : ∃ n1, r.ps.length = n1 := ⟨_, rfl⟩
    rw [hn1] at x0 hcall
    have HB : Hid _ := B0
    clear hnx hrk hn1 ht B0 hrp
    go_enter Tryz.func106, Tryz.ntmps106
    go_wp2_with fail
    refine hcall.mono ?_
    rintro e w1 ⟨rfl, hb1⟩
    clear hcall x0 x1 x2
    go_wp2
    go_ret
    exact ⟨rfl, HB.out.trans (hb1.mono HB.out.size)⟩
  · have hnx : nextD (bs.map BkR.D) x = -1 := nextD_out (by simpa [ht.len] using hx)
    rw [hnx]
    by_cases h1 : x < 0
    · go_enter Tryz.func106, Tryz.ntmps106
      go_wp2
      go_ret
      exact ⟨rfl, B0⟩
    · have h2 : (n : Int) ≤ x := by omega
      go_enter Tryz.func106, Tryz.ntmps106
      go_wp2
      go_ret
      exact ⟨rfl, B0⟩
set_option maxHeartbeats 1600000 in
theorem hasBk (a : Option Addr) (n cap : Nat) (x : Int) (w : World) (_hn : n ≤ 1048576) :
    Calls Tryz.prog 46 #[.slice a n cap, .int .i64 x] w fun e w' => e = .returned (.bool (decide (0 ≤ x) && decide (x < (n : Int)))) ∧ w' = w := by
  go_enter Tryz.func46, Tryz.ntmps46
  by_cases h1 : 0 ≤ x
  · by_cases h2 : x < (n : Int)
    · go_wp2
      go_ret
      exact ⟨by simp [h1, h2], rfl⟩
    · go_wp2
      go_ret
      exact ⟨by simp [h2], rfl⟩
  · go_wp2
    go_ret
    exact ⟨by simp; omega, rfl⟩
set_option maxHeartbeats 1600000 in
theorem hasPg (a : Option Addr) (n cap : Nat) (x : Int) (w : World) (_hn : n ≤ 1048576) :
    Calls Tryz.prog 55 #[.slice a n cap, .int .i64 x] w fun e w' => e = .returned (.bool (decide (0 ≤ x) && decide (x < (n : Int)))) ∧ w' = w := by
  go_enter Tryz.func55, Tryz.ntmps55
  by_cases h1 : 0 ≤ x
  · by_cases h2 : x < (n : Int)
    · go_wp2
      go_ret
      exact ⟨by simp [h1, h2], rfl⟩
    · go_wp2
      go_ret
      exact ⟨by simp [h2], rfl⟩
  · go_wp2
    go_ret
    exact ⟨by simp; omega, rfl⟩
set_option maxRecDepth 100000 in
set_option maxHeartbeats 4000000 in
theorem nextI (a : Option Addr) (n cap : Nat) (bs : List BkR) (x : Int) (w : World) (ht : CR w a n bs) :
    Calls Tryz.prog 11 #[.agg #[.slice a n cap], .int .i64 x] w fun e w' => e = .returned (.int .i64 (nextD (bs.map BkR.D) x)) ∧ Below w.heap.size w w' := by
  have B0 : Below w.heap.size w (w.alloc (.cells #[.slice a n cap] 26)) := (Below.refl _ w).alloc (Nat.le_refl _) _
  have hn1 := ht.n
  by_cases hx : 0 ≤ x ∧ x < (n : Int)
  · obtain ⟨k, rfl⟩ : ∃ k : Nat, x = (k : Int) := ⟨x.toNat, by omega⟩
    have hkn : k < n := by omega
    have hki : (k : Int) < (n : Int) := by omega
    have hd : (decide (0 ≤ (k : Int)) && decide ((k : Int) < (n : Int))) = true := by simp [hki]
    obtain ⟨b, off, r, rfl, hlt, hrk, x3, hrp, htp⟩ := (ht.keep B0).some hkn
    obtain ⟨x0, x1, x2⟩ := x3
    have hcall := writtenI r.a r.ps.length r.cap r.ps _ rfl htp hrp
    have hnx := nextD_in hrk
    rw [hnx]
    obtain ⟨n1, hn1⟩ : ∃ n1, r.ps.length = n1 := ⟨_, rfl⟩
    rw [hn1] at x0 hcall
    have HB : Hid _ := B0
    have hh := hasBk (some ⟨b, off, none⟩) n cap (k : Int) (w.alloc (.cells #[.slice (some ⟨b, off, none⟩) n cap] 26)) (by omega)
    rw [hd] at hh
    clear hnx hrk hn1 ht B0 hrp hd
    go_enter Tryz.func11, Tryz.ntmps11
    go_wp2_with fail
    refine hh.mono ?_
    rintro e w1 ⟨rfl, hw⟩
    obtain rfl := hw.symm
    go_wp2_with fail
    refine hcall.mono ?_
    rintro e w1 ⟨rfl, hb1⟩
    clear hcall x0 x1 x2
    go_wp2
    go_ret
    exact ⟨rfl, HB.out.trans (hb1.mono HB.out.size)⟩
  · have hnx : nextD (bs.map BkR.D) x = -1 := nextD_out (by simpa [ht.len] using hx)
    rw [hnx]
    have hd : (decide (0 ≤ x) && decide (x < (n : Int))) = false := by
      by_cases h1 : 0 ≤ x
      · have : ¬ x < (n : Int) := by omega
        simp [this]
      · simp [h1]
    have hh := hasBk a n cap x (w.alloc (.cells #[.slice a n cap] 26)) (by omega)
    rw [hd] at hh
    clear hd hnx ht
    go_enter Tryz.func11, Tryz.ntmps11
    go_wp2_with fail
    refine hh.mono ?_
    rintro e w1 ⟨rfl, hw⟩
    obtain rfl := hw.symm
    go_wp2
    go_ret
    exact ⟨rfl, B0⟩
end

section
open Go.RowKit
/-- A fault. -/
structure FtD where
  tm : Int
  kd : Int
  kp : Int
deriving Inhabited
def ftE : El FtD := ⟨3, by omega, fun f => [.int .i64 f.tm, .int .i64 f.kd, .int .i64 f.kp], fun _ => rfl⟩
def RdFa (w : World) (a : Option Addr) (fs : List FtD) : Prop := RdE ftE (fun _ => True) w a fs
theorem RdFa.keep {w w' : World} {a : Option Addr} {fs : List FtD} (h : RdFa w a fs) (hb : Below w.heap.size w w') : RdFa w' a fs := RdE.mono h hb fun _ _ hr => hr
/-- The cells of a fault. -/
structure ThreeF (w : World) (b off : Nat) (r : FtD) : Prop where
  c0 : w.cell? ⟨b, off, none⟩ = some (.int .i64 r.tm)
  c1 : w.cell? ⟨b, off + 1, none⟩ = some (.int .i64 r.kd)
  c2 : w.cell? ⟨b, off + 2, none⟩ = some (.int .i64 r.kp)
theorem ThreeF.keep {w w' : World} {b off B : Nat} {r : FtD} (h : ThreeF w b off r) (hb : Below B w w') (hlt : b < B) : ThreeF w' b off r := ⟨(hb.cell hlt).trans h.c0, (hb.cell hlt).trans h.c1, (hb.cell hlt).trans h.c2⟩
theorem RdFa.lt {w : World} {a : Option Addr} {fs : List FtD} (h : RdFa w a fs) (hz : fs ≠ []) : ∃ b off, a = some ⟨b, off, none⟩ ∧ b < w.heap.size ∧ ∀ i r, fs[i]? = some r → ThreeF w b (off + i * 3) r := by
  obtain ⟨b, off, h1, h2, h3⟩ := RdE.lt h hz
  exact ⟨b, off, h1, h2, fun i p hi => ⟨(h3 i p hi).1 0 (by decide), (h3 i p hi).1 1 (by decide), (h3 i p hi).1 2 (by decide)⟩⟩
/-- Faults that can be read. -/
structure FR (w : World) (a : Option Addr) (m : Nat) (fs : List FtD) : Prop where
  len : fs.length = m
  tot : m ≤ 1048576
  rd : RdFa w a fs
theorem FR.keep {w w' : World} {a : Option Addr} {m : Nat} {fs : List FtD} (h : FR w a m fs) (hb : Below w.heap.size w w') : FR w' a m fs := ⟨h.len, h.tot, h.rd.keep hb⟩
theorem FR.some {w : World} {a : Option Addr} {m k : Nat} {fs : List FtD} (h : FR w a m fs) (hk : k < m) : ∃ b off r, a = some ⟨b, off, none⟩ ∧ b < w.heap.size ∧ fs[k]? = .some r ∧ ThreeF w b (off + k * 3) r := by
  have hl := h.len
  have hrk : fs[k]? = .some fs[k] := List.getElem?_eq_getElem (by omega)
  obtain ⟨b, off, e, hlt, hc⟩ := h.rd.lt (by intro h0; subst h0; simp at hl; omega)
  exact ⟨b, off, fs[k], e, hlt, hrk, hc k _ hrk⟩
/-- Faults of the call's own. -/
def OwnFa (w : World) (v : Value) (m : Nat) (fs : List FtD) : Prop := OwnE ftE 51 w v m fs
theorem OwnFa.rd {w : World} {a : Option Addr} {c n m : Nat} {fs : List FtD} (h : OwnFa w (.slice a n c) m fs) : RdFa w a fs := by
  obtain ⟨a', c', e, r⟩ := OwnE.rd (rd := fun _ => True) h (fun _ _ => trivial)
  simp only [Value.slice.injEq] at e
  rw [e.1]; exact r
def ftZ : FtD := ⟨0, 0, 0⟩
theorem Tryz.infoFault : (Tryz.prog.info? 51).map (fun i => (i.zero, i.size, i.bytes)) = some (some (.agg #[.int .i64 0, .int .i64 0, .int .i64 0]), 3, 24) := by kernel_rfl
end

section
open Go.RowKit
/-- Nothing is written, and it is not bad. -/
def freeB (b : BkD) : Bool := !b.bad && decide (nextP b.ps = 0)
/-- Some pages are written, but not all, and it is not bad. -/
def begB (b : BkD) : Bool := !b.bad && (decide (0 < nextP b.ps) && decide (nextP b.ps < b.ps.length))
/-- How many blocks are free. -/
def freeD (ds : List BkD) : Nat := (ds.filter freeB).length
theorem freeD_snoc (ds : List BkD) (b : BkD) : freeD (ds ++ [b]) = freeD ds + (if freeB b then 1 else 0) := by
  unfold freeD
  rw [List.filter_append]
  cases h : freeB b <;> simp [h]
theorem freeD_take {bs : List BkR} {k : Nat} {r : BkR} (h : bs[k]? = some r) : freeD ((bs.take (k + 1)).map BkR.D) = freeD ((bs.take k).map BkR.D) + (if freeB r.D then 1 else 0) := by
  rw [List.take_add_one, h]
  simp only [Option.toList_some, List.map_append, List.map_cons, List.map_nil]
  exact freeD_snoc _ _
theorem freeD_le (ds : List BkD) : freeD ds ≤ ds.length := List.length_filter_le _ _
/-- The place of the first that is so, or -1. -/
def fstD (p : BkD → Bool) (ds : List BkD) : Int := match ds.findIdx? p with | some k => (k : Int) | none => -1
theorem fstD_at {p : BkD → Bool} {bs : List BkR} {k : Nat} {r : BkR} (hk : bs[k]? = some r) (h : p r.D = true) (ha : ∀ (j : Nat) (q : BkR), j < k → bs[j]? = some q → p q.D = false) : fstD p (bs.map BkR.D) = (k : Int) := by
  have hf : (bs.map BkR.D).findIdx? p = some k := by
    obtain ⟨hl, he⟩ := List.getElem?_eq_some_iff.1 hk
    rw [List.findIdx?_eq_some_iff_getElem]
    refine ⟨by simpa using hl, by simpa [he] using h, fun j hj => ?_⟩
    have := ha j _ hj (List.getElem?_eq_getElem (by omega))
    simpa using this
  unfold fstD
  rw [hf]
theorem fstD_none {p : BkD → Bool} {bs : List BkR} (ha : ∀ (j : Nat) (q : BkR), bs[j]? = some q → p q.D = false) : fstD p (bs.map BkR.D) = -1 := by
  have hf : (bs.map BkR.D).findIdx? p = none := by
    rw [List.findIdx?_eq_none_iff]
    intro x hx
    obtain ⟨q, hq, rfl⟩ := List.mem_map.1 hx
    obtain ⟨j, hj⟩ := List.getElem?_of_mem hq
    exact ha j q hj
  unfold fstD
  rw [hf]
/-- The block that is written to next. -/
def openD (ds : List BkD) (spare : Int) : Int := if 0 ≤ fstD begB ds then fstD begB ds else if spare < (freeD ds : Int) then fstD freeB ds else -1
set_option maxHeartbeats 1600000 in
theorem isFreeI (a : Option Addr) (n cap : Nat) (wear : Int) (bad : Bool) (ps : List PgR) (w : World) (hn : ps.length = n) (hs : totP (ps.map PgR.D) ≤ 1048576) (hr : RdPs w a ps) :
    Calls Tryz.prog 84 #[.agg #[.slice a n cap, .int .i64 wear, .bool bad]] w fun e w' => e = .returned (.bool (freeB ⟨ps.map PgR.D, wear, bad⟩)) ∧ Below w.heap.size w w' := by
  have B0 : Below w.heap.size w (w.alloc (.cells #[.slice a n cap, .int .i64 wear, .bool bad] 42)) := (Below.refl _ w).alloc (Nat.le_refl _) _
  have z0 := Blk.new w 42 #[.slice a n cap, .int .i64 wear, .bool bad]
  have hcall := writtenI a n cap ps (w.alloc (.cells #[.slice a n cap, .int .i64 wear, .bool bad] 42)) hn hs (hr.keep B0)
  have hl : (ps.map PgR.D).length = n := by simp [hn]
  have hle := nextP_le (ps.map PgR.D)
  rw [hl] at hle
  have hnn := totP_len (ps.map PgR.D)
  rw [hl] at hnn
  have hx : freeB ⟨ps.map PgR.D, wear, bad⟩ = (!bad && decide (nextP (ps.map PgR.D) = 0)) := by rfl
  rw [hx]
  obtain ⟨m, hm⟩ : ∃ m, nextP (ps.map PgR.D) = m := ⟨_, rfl⟩
  rw [hm] at hcall hle ⊢
  have HB : Hid _ := B0
  clear B0 hr hm hl hx hn
  have q0 := z0.cell 0
  have q2 := z0.cell 2
  simp at q0 q2
  go_enter Tryz.func84, Tryz.ntmps84
  cases bad
  · go_wp2_with fail
    refine hcall.mono ?_
    rintro e w1 ⟨rfl, hb1⟩
    clear hcall
    by_cases h0 : m = 0
    · subst h0
      go_wp2
      go_ret
      exact ⟨rfl, HB.out.trans (hb1.mono HB.out.size)⟩
    · have h1 : ¬ (m : Int) = 0 := by omega
      have h2 : ((m : Int) == 0) = false := by simpa using h1
      go_wp2
      go_ret
      exact ⟨by simp [h0], HB.out.trans (hb1.mono HB.out.size)⟩
  · go_wp2
    go_ret
    exact ⟨rfl, HB.out⟩
set_option maxHeartbeats 1600000 in
theorem isBegunI (a : Option Addr) (n cap : Nat) (wear : Int) (bad : Bool) (ps : List PgR) (w : World) (hn : ps.length = n) (hs : totP (ps.map PgR.D) ≤ 1048576) (hr : RdPs w a ps) :
    Calls Tryz.prog 86 #[.agg #[.slice a n cap, .int .i64 wear, .bool bad]] w fun e w' => e = .returned (.bool (begB ⟨ps.map PgR.D, wear, bad⟩)) ∧ Below w.heap.size w w' := by
  have B0 : Below w.heap.size w (w.alloc (.cells #[.slice a n cap, .int .i64 wear, .bool bad] 42)) := (Below.refl _ w).alloc (Nat.le_refl _) _
  have z0 := Blk.new w 42 #[.slice a n cap, .int .i64 wear, .bool bad]
  have hcall := writtenI a n cap ps (w.alloc (.cells #[.slice a n cap, .int .i64 wear, .bool bad] 42)) hn hs (hr.keep B0)
  have hl : (ps.map PgR.D).length = n := by simp [hn]
  have hle := nextP_le (ps.map PgR.D)
  rw [hl] at hle
  have hnn := totP_len (ps.map PgR.D)
  rw [hl] at hnn
  have hx : begB ⟨ps.map PgR.D, wear, bad⟩ = (!bad && (decide (0 < nextP (ps.map PgR.D)) && decide (nextP (ps.map PgR.D) < n))) := by rw [← hl]; rfl
  rw [hx]
  obtain ⟨m, hm⟩ : ∃ m, nextP (ps.map PgR.D) = m := ⟨_, rfl⟩
  rw [hm] at hcall hle ⊢
  have HB : Hid _ := B0
  clear B0 hr hm hl hx hn
  go_enter Tryz.func86, Tryz.ntmps86
  go_wp2_with fail
  refine hcall.mono ?_
  rintro e w1 ⟨rfl, hb1⟩
  have t0 := (z0.keep hb1).cell 0
  have t2 := (z0.keep hb1).cell 2
  simp at t0 t2
  clear hcall z0
  cases bad
  · by_cases h0 : 0 < m
    · have h1 : (0 : Int) < (m : Int) := by omega
      by_cases h2 : m < n
      · have h3 : (m : Int) < (n : Int) := by omega
        go_wp2
        go_ret
        exact ⟨by simp [h0, h2], HB.out.trans (hb1.mono HB.out.size)⟩
      · have h3 : ¬ (m : Int) < (n : Int) := by omega
        go_wp2
        go_ret
        exact ⟨by simp [h2], HB.out.trans (hb1.mono HB.out.size)⟩
    · have h1 : ¬ (0 : Int) < (m : Int) := by omega
      go_wp2
      go_ret
      exact ⟨by simp [h0], HB.out.trans (hb1.mono HB.out.size)⟩
  · go_wp2
    go_ret
    exact ⟨rfl, HB.out.trans (hb1.mono HB.out.size)⟩
set_option maxRecDepth 100000 in
set_option maxHeartbeats 4000000 in
theorem freeI (a : Option Addr) (n cap : Nat) (bs : List BkR) (ops : Int) (fa : Option Addr) (m fc : Nat) (down : Bool) (seq : Int) (w : World) (ht : CR w a n bs) :
    Calls Tryz.prog 36 #[.agg #[.slice a n cap, .int .i64 ops, .slice fa m fc, .bool down, .int .i64 seq]] w fun e w' => e = .returned (.int .i64 (freeD (bs.map BkR.D) : Nat)) ∧ Below w.heap.size w w' := by
  have B0 : Below w.heap.size w (w.alloc (.cells #[.slice a n cap, .int .i64 ops, .slice fa m fc, .bool down, .int .i64 seq] 55)) := (Below.refl _ w).alloc (Nat.le_refl _) _
  have HT : Hid _ := ht.keep B0
  have HB : Hid _ := B0
  have hn1 := ht.n
  have hln : Hid (bs.length = n) := ht.len
  clear ht B0
  go_enter Tryz.func36, Tryz.ntmps36
  go_wp2
  obtain ⟨W0, hW0⟩ : ∃ W, (w.alloc (.cells #[.slice a n cap, .int .i64 ops, .slice fa m fc, .bool down, .int .i64 seq] 55)) = W := ⟨_, rfl⟩
  rw [hW0] at HB HT ⊢
  clear hW0
  go_loopw [3, 11] (fun c i wr => ∃ (k f : Nat), k ≤ n ∧ i = .int .i64 k ∧ c = .int .i64 f ∧ f ≤ k ∧ Hid (freeD ((bs.take k).map BkR.D) = f) ∧ Hid (Below W0.heap.size W0 wr)) (fun _ i _ => n - (intOf i).toNat)
  case atStart => exact ⟨0, 0, Nat.zero_le _, rfl, rfl, Nat.le_refl _, rfl, Below.refl _ _⟩
  case round =>
    obtain ⟨k, f, hk, rfl, rfl, hfk, hf, hB⟩ := hrel
    by_cases hkn : k < n
    · have hki : (k : Int) < (n : Int) := by omega
      obtain ⟨b, off, r, rfl, hlt, hrk, x3, hrp, htp⟩ := (HT.out.keep hB.out).some hkn
      obtain ⟨x0, x1, x2⟩ := x3
      have hnx := freeD_take hrk
      rw [hf.out] at hnx
      obtain ⟨n1, hn1⟩ : ∃ n1, r.ps.length = n1 := ⟨_, rfl⟩
      obtain ⟨wear, hwe⟩ : ∃ x, r.wear = x := ⟨_, rfl⟩
      obtain ⟨bad, hba⟩ : ∃ x, r.bad = x := ⟨_, rfl⟩
      obtain ⟨ra, hra⟩ : ∃ x, r.a = x := ⟨_, rfl⟩
      obtain ⟨rc, hrc⟩ : ∃ x, r.cap = x := ⟨_, rfl⟩
      have hbA : Below wr.heap.size wr (wr.alloc (.cells #[.slice ra n1 rc, .int .i64 wear, .bool bad] 42)) := (Below.refl _ wr).alloc (Nat.le_refl _) _
      have hcall := isFreeI r.a n1 r.cap r.wear r.bad r.ps (wr.alloc (.cells #[.slice ra n1 rc, .int .i64 wear, .bool bad] 42)) hn1 htp (hrp.keep hbA)
      have hbe : freeB r.D = freeB ⟨r.ps.map PgR.D, r.wear, r.bad⟩ := rfl
      rw [hbe] at hnx
      rw [hn1, hra, hrc] at x0
      rw [hwe] at x1 hcall hnx
      rw [hba] at x2 hcall hnx
      rw [hra, hrc] at hcall
      generalize freeB ⟨r.ps.map PgR.D, wear, bad⟩ = q at hcall hnx
      have HNX : Hid _ := hnx
      have HA : Hid _ := hbA
      clear hrk hn1 hwe hba hra hrc hbe hnx hrp htp hf hbA
      cases q
      · have HN : Hid (freeD ((bs.take (k + 1)).map BkR.D) = f) := by show _ = _; rw [HNX.out]; rfl
        clear HNX
        go_wp2_with fail
        refine hcall.mono ?_
        rintro e w1 ⟨rfl, hb1⟩
        have hB' : Hid (Below W0.heap.size W0 w1) := hB.out.trans ((HA.out.trans (hb1.mono HA.out.size)).mono hB.out.size)
        clear hcall hb1
        go_wp2
        go_roundw
        case rel => exact ⟨k + 1, f, by omega, by go_num, rfl, by omega, HN, hB'⟩
        case measure => simp [intOf]; omega
      · have HN : Hid (freeD ((bs.take (k + 1)).map BkR.D) = f + 1) := by show _ = _; rw [HNX.out]; rfl
        clear HNX
        go_wp2_with fail
        refine hcall.mono ?_
        rintro e w1 ⟨rfl, hb1⟩
        have hB' : Hid (Below W0.heap.size W0 w1) := hB.out.trans ((HA.out.trans (hb1.mono HA.out.size)).mono hB.out.size)
        clear hcall hb1
        go_wp2
        go_roundw
        case rel => exact ⟨k + 1, f + 1, by omega, by go_num, by go_num, by omega, HN, hB'⟩
        case measure => simp [intOf]; omega
    · have hki : ¬ (k : Int) < (n : Int) := by omega
      go_wp2
      go_ret
      have := hf.out
      rw [List.take_of_length_le (by rw [hln.out]; omega)] at this
      exact ⟨by rw [this]; rfl, HB.out.trans (hB.out.mono HB.out.size)⟩
set_option maxRecDepth 100000 in
set_option maxHeartbeats 2000000 in
theorem idxFree (a : Option Addr) (n cap : Nat) (bs : List BkR) (w : World) (ht : CR w a n bs) :
    Calls Tryz.prog 85 #[.slice a n cap, .func (.func 84) #[] #[]] w fun e w' => e = .returned (.int .i64 (fstD freeB (bs.map BkR.D))) ∧ Below w.heap.size w w' := by
  have hn1 := ht.n
  have HR : Hid _ := ht
  have hn' : Hid (bs.length = n) := ht.len
  have hY : Hid (∀ (k : Nat) (r : BkR), (∀ (j : Nat) (q : BkR), j < k → bs[j]? = some q → freeB q.D = false) → bs[k]? = some r → freeB r.D = true → (k : Int) = fstD freeB (bs.map BkR.D)) := fun k r h hk he => (fstD_at hk he h).symm
  have hE : Hid ((∀ (j : Nat) (q : BkR), j < n → bs[j]? = some q → freeB q.D = false) → (-1 : Int) = fstD freeB (bs.map BkR.D)) := fun h => (fstD_none (fun j q hq => h j q (by rw [← ht.len]; exact (List.getElem?_eq_some_iff.1 hq).1) hq)).symm
  generalize fstD freeB (bs.map BkR.D) = R at hY hE ⊢
  clear ht
  go_enter Tryz.func85, Tryz.ntmps85
  go_wp2
  go_loopw [8] (fun i wr => ∃ k : Nat, k ≤ n ∧ i = .int .i64 k ∧ Hid (∀ (j : Nat) (q : BkR), j < k → bs[j]? = some q → freeB q.D = false) ∧ Below w.heap.size w wr) (fun i _ => n - (intOf i).toNat)
  case atStart => exact ⟨0, Nat.zero_le _, rfl, fun j q hj => by omega, Below.refl _ _⟩
  case round =>
    obtain ⟨k, hk, rfl, hall, hB⟩ := hrel
    by_cases hkn : k < n
    · have hki : (k : Int) < (n : Int) := by omega
      obtain ⟨b, off, r, rfl, hlt, hrk, x3, hrp, htp⟩ := (HR.out.keep hB).some hkn
      obtain ⟨x0, x1, x2⟩ := x3
      have hcc := isFreeI r.a r.ps.length r.cap r.wear r.bad r.ps wr rfl htp hrp
      have hbe : freeB r.D = freeB ⟨r.ps.map PgR.D, r.wear, r.bad⟩ := rfl
      rw [← hbe] at hcc
      have hyes : Hid (freeB r.D = true → (k : Int) = R) := fun he => hY.out k r hall.out hrk he
      have hno : Hid (freeB r.D = false → ∀ (j : Nat) (q : BkR), j < k + 1 → bs[j]? = some q → freeB q.D = false) := by
        intro he j q hj hq
        rcases (show j < k ∨ j = k by omega) with h | rfl
        · exact hall.out j q h hq
        · rw [hrk] at hq
          simp at hq
          rw [← hq]
          exact he
      obtain ⟨n1, hn1⟩ : ∃ n1, r.ps.length = n1 := ⟨_, rfl⟩
      rw [hn1] at x0 hcc
      generalize freeB r.D = q at hcc hyes hno
      clear hrk hall hY hE HR hrp htp hbe hn1
      cases q
      · have hnx : Hid _ := hno.out rfl
        clear hyes hno
        go_wp2_with (go_at_call 84; (with_reducible refine hcc.mono ?_); rintro e w1 ⟨rfl, b1⟩)
        go_roundw
        case rel => exact ⟨k + 1, by omega, by go_num, hnx, hB.trans (b1.mono hB.size)⟩
        case measure => simp [intOf]; omega
      · have hend : Hid ((k : Int) = R) := hyes.out rfl
        clear hyes hno
        go_wp2_with (go_at_call 84; (with_reducible refine hcc.mono ?_); rintro e w1 ⟨rfl, b1⟩)
        go_ret
        exact ⟨ret_int hend.out, hB.trans (b1.mono hB.size)⟩
    · have hki : ¬ (k : Int) < (n : Int) := by omega
      have hend : Hid ((-1 : Int) = R) := hE.out (fun j q hj hq => hall.out j q (by omega) hq)
      clear hY hE HR hall
      go_wp2
      go_ret
      exact ⟨ret_int hend.out, hB⟩
set_option maxRecDepth 100000 in
set_option maxHeartbeats 2000000 in
theorem idxBegun (a : Option Addr) (n cap : Nat) (bs : List BkR) (w : World) (ht : CR w a n bs) :
    Calls Tryz.prog 85 #[.slice a n cap, .func (.func 86) #[] #[]] w fun e w' => e = .returned (.int .i64 (fstD begB (bs.map BkR.D))) ∧ Below w.heap.size w w' := by
  have hn1 := ht.n
  have HR : Hid _ := ht
  have hn' : Hid (bs.length = n) := ht.len
  have hY : Hid (∀ (k : Nat) (r : BkR), (∀ (j : Nat) (q : BkR), j < k → bs[j]? = some q → begB q.D = false) → bs[k]? = some r → begB r.D = true → (k : Int) = fstD begB (bs.map BkR.D)) := fun k r h hk he => (fstD_at hk he h).symm
  have hE : Hid ((∀ (j : Nat) (q : BkR), j < n → bs[j]? = some q → begB q.D = false) → (-1 : Int) = fstD begB (bs.map BkR.D)) := fun h => (fstD_none (fun j q hq => h j q (by rw [← ht.len]; exact (List.getElem?_eq_some_iff.1 hq).1) hq)).symm
  generalize fstD begB (bs.map BkR.D) = R at hY hE ⊢
  clear ht
  go_enter Tryz.func85, Tryz.ntmps85
  go_wp2
  go_loopw [8] (fun i wr => ∃ k : Nat, k ≤ n ∧ i = .int .i64 k ∧ Hid (∀ (j : Nat) (q : BkR), j < k → bs[j]? = some q → begB q.D = false) ∧ Below w.heap.size w wr) (fun i _ => n - (intOf i).toNat)
  case atStart => exact ⟨0, Nat.zero_le _, rfl, fun j q hj => by omega, Below.refl _ _⟩
  case round =>
    obtain ⟨k, hk, rfl, hall, hB⟩ := hrel
    by_cases hkn : k < n
    · have hki : (k : Int) < (n : Int) := by omega
      obtain ⟨b, off, r, rfl, hlt, hrk, x3, hrp, htp⟩ := (HR.out.keep hB).some hkn
      obtain ⟨x0, x1, x2⟩ := x3
      have hcc := isBegunI r.a r.ps.length r.cap r.wear r.bad r.ps wr rfl htp hrp
      have hbe : begB r.D = begB ⟨r.ps.map PgR.D, r.wear, r.bad⟩ := rfl
      rw [← hbe] at hcc
      have hyes : Hid (begB r.D = true → (k : Int) = R) := fun he => hY.out k r hall.out hrk he
      have hno : Hid (begB r.D = false → ∀ (j : Nat) (q : BkR), j < k + 1 → bs[j]? = some q → begB q.D = false) := by
        intro he j q hj hq
        rcases (show j < k ∨ j = k by omega) with h | rfl
        · exact hall.out j q h hq
        · rw [hrk] at hq
          simp at hq
          rw [← hq]
          exact he
      obtain ⟨n1, hn1⟩ : ∃ n1, r.ps.length = n1 := ⟨_, rfl⟩
      rw [hn1] at x0 hcc
      generalize begB r.D = q at hcc hyes hno
      clear hrk hall hY hE HR hrp htp hbe hn1
      cases q
      · have hnx : Hid _ := hno.out rfl
        clear hyes hno
        go_wp2_with (go_at_call 86; (with_reducible refine hcc.mono ?_); rintro e w1 ⟨rfl, b1⟩)
        go_roundw
        case rel => exact ⟨k + 1, by omega, by go_num, hnx, hB.trans (b1.mono hB.size)⟩
        case measure => simp [intOf]; omega
      · have hend : Hid ((k : Int) = R) := hyes.out rfl
        clear hyes hno
        go_wp2_with (go_at_call 86; (with_reducible refine hcc.mono ?_); rintro e w1 ⟨rfl, b1⟩)
        go_ret
        exact ⟨ret_int hend.out, hB.trans (b1.mono hB.size)⟩
    · have hki : ¬ (k : Int) < (n : Int) := by omega
      have hend : Hid ((-1 : Int) = R) := hE.out (fun j q hj hq => hall.out j q (by omega) hq)
      clear hY hE HR hall
      go_wp2
      go_ret
      exact ⟨ret_int hend.out, hB⟩
theorem fstD_lt (p : BkD → Bool) (ds : List BkD) : fstD p ds = -1 ∨ ∃ k : Nat, fstD p ds = (k : Int) ∧ k < ds.length := by
  unfold fstD
  cases h : ds.findIdx? p with
  | none => exact .inl rfl
  | some k => exact .inr ⟨k, rfl, by rw [List.findIdx?_eq_some_iff_getElem] at h; exact h.1⟩
set_option maxRecDepth 100000 in
set_option maxHeartbeats 4000000 in
theorem openI (a : Option Addr) (n cap : Nat) (bs : List BkR) (ops : Int) (fa : Option Addr) (m fc : Nat) (down : Bool) (seq spare : Int) (w : World) (ht : CR w a n bs) :
    Calls Tryz.prog 37 #[.agg #[.slice a n cap, .int .i64 ops, .slice fa m fc, .bool down, .int .i64 seq], .int .i64 spare] w fun e w' => e = .returned (.int .i64 (openD (bs.map BkR.D) spare)) ∧ Below w.heap.size w w' := by
  have B0 : Below w.heap.size w (w.alloc (.cells #[.slice a n cap, .int .i64 ops, .slice fa m fc, .bool down, .int .i64 seq] 55)) := (Below.refl _ w).alloc (Nat.le_refl _) _
  have z0 := Blk.new w 55 #[.slice a n cap, .int .i64 ops, .slice fa m fc, .bool down, .int .i64 seq]
  obtain ⟨W0, hW0⟩ : ∃ W, (w.alloc (.cells #[.slice a n cap, .int .i64 ops, .slice fa m fc, .bool down, .int .i64 seq] 55)) = W := ⟨_, rfl⟩
  have hn1 := ht.n
  have hl : (bs.map BkR.D).length = n := by simp [ht.len]
  have hca : ∀ W, Below W0.heap.size W0 W → CR W a n bs := fun W h => ht.keep (B0.trans (by rw [hW0]; exact h.mono (by rw [← hW0]; exact B0.size)))
  have cB := fun (W : World) (h : Below W0.heap.size W0 W) => idxBegun a n cap bs W (hca W h)
  have cF := fun (W : World) (h : Below W0.heap.size W0 W) => idxFree a n cap bs W (hca W h)
  have cN := fun (W : World) (h : Below W0.heap.size W0 W) => freeI a n cap bs ops fa m fc down seq W (hca W h)
  have hfl := freeD_le (bs.map BkR.D)
  rw [hl] at hfl
  have hbl := fstD_lt begB (bs.map BkR.D)
  rw [hl] at hbl
  have hop : openD (bs.map BkR.D) spare = if 0 ≤ fstD begB (bs.map BkR.D) then fstD begB (bs.map BkR.D) else if spare < (freeD (bs.map BkR.D) : Int) then fstD freeB (bs.map BkR.D) else -1 := rfl
  rw [hop]
  generalize fstD begB (bs.map BkR.D) = kb at cB hbl ⊢
  generalize fstD freeB (bs.map BkR.D) = kf at cF ⊢
  generalize freeD (bs.map BkR.D) = nf at cN hfl ⊢
  rw [hW0] at B0 z0
  have HB : Hid _ := B0
  have CB : Hid _ := cB
  have CF : Hid _ := cF
  have CN : Hid _ := cN
  clear ht hl hca B0 cB cF cN hop
  obtain ⟨Hs, hHs⟩ : ∃ H, w.heap.size = H := ⟨_, rfl⟩
  rw [hHs] at z0
  have q0 := z0.cell 0
  simp at q0
  go_enter Tryz.func37, Tryz.ntmps37
  go_wp2_with fail
  try rw [hW0]
  try rw [hHs]
  refine (CB.out W0 (Below.refl _ _)).mono ?_
  rintro e w1 ⟨rfl, b1⟩
  have z1 := z0.keep b1
  have q0 := z1.cell 0
  have q1 := z1.cell 1
  have q2 := z1.cell 2
  have q3 := z1.cell 3
  have q4 := z1.cell 4
  simp at q0 q1 q2 q3 q4
  have B1 := HB.out.trans (b1.mono HB.out.size)
  rcases hbl with rfl | ⟨k, rfl, hk⟩
  · by_cases hs : spare < (nf : Int)
    · go_wp2_with fail
      refine (CN.out w1 b1).mono ?_
      rintro e w2 ⟨rfl, b2⟩
      have q0 := (z1.keep b2).cell 0
      simp at q0
      have b12 := b1.trans (b2.mono b1.size)
      go_wp2_with fail
      refine (CF.out w2 b12).mono ?_
      rintro e w3 ⟨rfl, b3⟩
      have b13 := b12.trans (b3.mono b12.size)
      go_wp2
      go_ret
      rw [← hHs]
      exact ⟨rfl, HB.out.trans (b13.mono HB.out.size)⟩
    · go_wp2_with fail
      refine (CN.out w1 b1).mono ?_
      rintro e w2 ⟨rfl, b2⟩
      have b12 := b1.trans (b2.mono b1.size)
      go_wp2
      go_ret
      rw [← hHs]
      exact ⟨rfl, HB.out.trans (b12.mono HB.out.size)⟩
  · have h0 : ¬ (k : Int) < 0 := by omega
    go_wp2
    go_ret
    rw [← hHs]
    exact ⟨rfl, B1⟩
end

section
open Go.RowKit
/-- What was appended, and where it lies. -/
theorem run_appAny (W : World) (B : Nat) (t ty e : TypeId) (i : TypeInfo) (z : Value) (size bytes : Nat) (ht : Tryz.prog.underlying t = some (.slice e)) (hi : Tryz.prog.info? e = some i) (hz : i.zero = some z) (hsize : i.size = size) (hby : i.bytes = bytes) (hzs : z.cells.size = size) (hsz : 0 < size)
    (v : Value) (n : Nat) (xs : List Value) (hown : W.ownsRow B e size v n xs) (ao : Option Addr) (m c : Nat) (news : List Value) (hl : news.length = m * size) (hnews : m = 0 ∨ ∃ ad, ao = some ad ∧ ∀ j u, news[j]? = some u → W.cell? (ad.add j) = some u)
    (h1 : ∀ u ∈ news, u.oneCell' = true) (h63 : n + m ≤ 8000000) (hb64 : bytes ≤ 640) (hB : B ≤ W.heap.size) :
    ∃ v' W', (Builtin.append_ #[t, t] ty #[v, .slice ao m c]).run Tryz.prog W = .ok v' W' ∧ W'.ownsRow B e size v' (n + m) (xs ++ news) ∧ W.grownBy W' v.ownBlock ∧ (v'.ownBlock = v.ownBlock ∨ v'.ownBlock = some W.heap.size) := by
  cases ao with
  | some ad =>
    obtain ⟨v', w', hr, h2, h3, _, h5⟩ := run_append_own_at (P := Tryz.prog) W B t ty e i z size bytes ht hi hz hsize hby hzs hsz v n xs hown ad m c news hl (by
      rcases hnews with h0 | ⟨ad', h0, hn⟩
      · subst h0
        obtain rfl : news = [] := List.length_eq_zero_iff.1 (by simpa using hl)
        intro j u hj; simp at hj
      · simp at h0; subst h0; exact hn) h1 (by unfold maxLen; omega) (by have : (n + m) * bytes ≤ 8000000 * 640 := Nat.mul_le_mul (by omega) hb64; omega) hB
    exact ⟨v', w', hr, h2, h3, h5⟩
  | none =>
    have hm : m = 0 := by
      rcases hnews with h0 | ⟨ad', h0, _⟩
      · exact h0
      · simp at h0
    subst hm
    obtain rfl : news = [] := List.length_eq_zero_iff.1 (by simpa using hl)
    have hs : Go.Src Tryz.prog i.size t (.slice none 0 c) 0 [] W := Go.Src.ofNil W ht c
    refine ⟨v, W, ?_, by rw [Nat.add_zero, List.append_nil]; exact hown, World.grownBy.refl W _, .inl rfl⟩
    rcases hown.2 with ⟨rfl, rfl⟩ | ⟨g, cap, cur, rfl, _, _, hk, _⟩
    · simp [Builtin.append_, run_underlying ht, sizeOf, typeInfo, hi, hs.len, hs.cells]
    · have hr := run_append_room_src W t t ty e i ht hi g 0 n cap (.slice none 0 c) 0 [] hs (by omega) (fun j hj => by simp at hj) (fun j hj => by simp at hj)
      rw [hr]
      rfl
/-- At the operation. -/
theorem wpList_appAny (W : World) {ops : Array Oper} {rest : List Oper} {o : Oper} {a : Act} {Q : Exit → Act → World → Prop} (hgd : o.guard = none) (s x : Operand) (t : TypeId)
    (ho : o.op = .call { callee := .builtin .append, args := #[s, x], argTypes := #[t, t] }) (v u : Value) (R : Value → World → Prop) (hs : a.eval s = v) (hx : a.eval x = u)
    (hr : ∀ ty, ∃ v' W', (Builtin.append_ #[t, t] ty #[v, u]).run Tryz.prog W = .ok v' W' ∧ R v' W')
    (h : ∀ v' W', R v' W' → wpList Tryz.prog ops Q rest (a.put o.dst v') W') :
    wpList Tryz.prog ops Q (o :: rest) a W := by
  refine wpList_plain hgd fun K hK => ?_
  obtain ⟨v', W', h1, h2⟩ := hr o.type
  unfold Oper.wp execOp
  simp only [ho, resolve, invoke, builtin, Sem.run_bind, Sem.run_pure, Result.andThen_ok, List.map_toArray, List.map_cons, List.map_nil, hs, hx, h1]
  exact hK _ _ (h v' W' h2)
/-- At a step of a region that draws. -/
theorem step_appAny (W : World) {ops : Array Oper} {o : Oper} {a : Act} {K : Act → World → Prop} {Q : Exit → Act → World → Prop} {E : Prop} (hgd : o.guard = none) (s x : Operand) (t : TypeId)
    (ho : o.op = .call { callee := .builtin .append, args := #[s, x], argTypes := #[t, t] }) (v u : Value) (R : Value → World → Prop) (hs : a.eval s = v) (hx : a.eval x = u)
    (hr : ∀ ty, ∃ v' W', (Builtin.append_ #[t, t] ty #[v, u]).run Tryz.prog W = .ok v' W' ∧ R v' W')
    (h : ∀ v' W', R v' W' → K (a.put o.dst v') W') :
    if Region.wanted o (yielded ops a.tmps) = true then Oper.wp Tryz.prog o a W K Q else E := by
  have hw : Region.wanted o (yielded ops a.tmps) = true := by simp [Region.wanted, hgd]
  rw [if_pos hw]
  obtain ⟨v', W', h1, h2⟩ := hr o.type
  unfold Oper.wp execOp
  simp only [ho, resolve, invoke, builtin, Sem.run_bind, Sem.run_pure, Result.andThen_ok, List.map_toArray, List.map_cons, List.map_nil, hs, hx, h1]
  exact h v' W' h2
/-- Bytes onto bytes. -/
structure AppB (W : World) (v : Value) (n : Nat) (zs : List Int) (v' : Value) (W' : World) : Prop where
  own : OwnV 0 W' v' n zs
  gr : W.grownBy W' v.ownBlock
  at_ : v'.ownBlock = v.ownBlock ∨ v'.ownBlock = some W.heap.size
theorem app_bytes (W : World) (v : Value) (n : Nat) (xs : List Int) (ao : Option Addr) (m c : Nat) (zs : List Int) (hn : zs.length = m) (hs : n + m ≤ 8000000) (hown : OwnV 0 W v n xs) (hr : Rd W ao zs) (ty : TypeId) :
    ∃ v' W', (Builtin.append_ #[22, 22] ty #[v, .slice ao m c]).run Tryz.prog W = .ok v' W' ∧ AppB W v (n + m) (xs ++ zs) v' W' := by
  obtain ⟨i0, hi, hz0, hz1, hz2⟩ := info_parts Tryz.info5
  obtain ⟨v', W', h1, h2, h3, h4⟩ := run_appAny W 0 22 ty 5 i0 (.int .u8 0) 1 1 Tryz.underlying22 hi hz0 hz1 hz2 rfl (by omega) v n (xs.map (Value.int .u8)) hown ao m c (zs.map (Value.int .u8)) (by simp [hn]) (by
    rcases hr with rfl | ⟨b, off, rfl, hc⟩
    · left; simpa using hn.symm
    · refine .inr ⟨_, rfl, fun j u hj => ?_⟩
      simp only [List.getElem?_map] at hj
      by_cases hjm : j < zs.length
      · have := hc j hjm
        rw [show (⟨b, off, none⟩ : Addr).add j = ⟨b, off + j, none⟩ by simp [Addr.add], this]
        rw [List.getElem?_eq_getElem hjm] at hj
        simpa [List.getElem?_eq_getElem hjm] using hj
      · rw [List.getElem?_eq_none (by omega)] at hj
        simp at hj) (fun u hu => by obtain ⟨z, _, rfl⟩ := List.mem_map.1 hu; rfl) hs (by omega) (Nat.zero_le _)
  exact ⟨v', W', h1, ⟨by unfold OwnV; rw [List.map_append]; exact h2, h3, h4⟩⟩
theorem AppB.room {W W' : World} {v : Value} {a : Option Addr} {n m c : Nat} {zs : List Int} (h : AppB W v n zs (.slice a m c) W') : n ≤ c := by
  rcases h.own.2 with ⟨_, h2⟩ | ⟨g', c', cur, h1, _, _, h2, _⟩
  · omega
  · simp only [Value.slice.injEq] at h1
    omega
theorem AppB.below {W W' : World} {v v' : Value} {n : Nat} {zs : List Int} (h : AppB W v n zs v' W') (hv : v.ownBlock = none) : Below W.heap.size W W' := ⟨h.gr.os, h.gr.tape, h.gr.output, h.gr.size, fun k hk => h.gr.block k hk (by rw [hv]; simp)⟩
end
end Go.Proofs.YtoeeblmnogeonaaGreatDoor
