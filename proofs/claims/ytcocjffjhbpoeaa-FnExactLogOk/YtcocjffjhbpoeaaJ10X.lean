/-
  Joined: SzCh, ChFn.
-/
import Derived.Test.YtcocjffjhbpoeaaJ09X
namespace Go.Proofs.Ytcocjffjhbpoeaa
section
open Go.RowKit
set_option maxHeartbeats 1600000 in
theorem szPage_w (u : Bool) (a : Option Addr) (n cap x : Nat) (w : World) (hn : n ≤ maxLen) (hx : x ≤ 1048576) :
    Calls Try.prog 134 #[.agg #[.bool u, .slice a n cap], .int .i64 x] w fun e w' => SzQ x n True e ∧ Below w.heap.size w w' := by
  have B0 : Below w.heap.size w (w.alloc (.cells #[.bool u, .slice a n cap] 172)) := (Below.refl _ w).alloc (Nat.le_refl _) _
  have hcall := szByteS_w a n cap x (w.alloc (.cells #[.bool u, .slice a n cap] 172)) hn hx
  have HB : Hid _ := B0
  clear B0
  go_enter Try.func134, Try.ntmps134
  go_wp2_with fail
  refine hcall.mono ?_
  rintro e w1 ⟨(rfl | ⟨v, hv, rfl, hzz⟩), hb1⟩
  · go_wp2
    go_ret
    exact ⟨.inl rfl, HB.out.trans (hb1.mono HB.out.size)⟩
  · go_wp2
    go_ret
    exact ⟨.inr ⟨v, hv, rfl, trivial⟩, HB.out.trans (hb1.mono HB.out.size)⟩
set_option maxHeartbeats 1600000 in
theorem szPageS_w (a : Option Addr) (n cap x : Nat) (ps : List PgR) (w : World) (hn : ps.length = n) (hm : n ≤ maxLen) (hx : x ≤ 1048576) (hin : ∀ r ∈ ps, PgIn r) (hr : RdPs w a ps) :
    Calls Try.prog 121 #[.slice a n cap, .int .i64 x] w fun e w' => SzQ x (totP (ps.map PgR.D)) True e ∧ Below w.heap.size w w' := by
  unfold maxLen at hm
  by_cases h : x < n
  · have h1 : ((x : Int) - (n : Int)) < 0 := by omega
    go_enter Try.func121, Try.ntmps121
    go_wp2
    go_ret
    exact ⟨.inl rfl, Below.refl _ _⟩
  · have h1 : ¬ ((x : Int) - (n : Int)) < 0 := by omega
    by_cases h0 : n = 0
    · subst h0
      obtain rfl : ps = [] := List.length_eq_zero_iff.1 hn
      go_enter Try.func121, Try.ntmps121
      go_wp2
      refine wp_loop_rounds 1 ?_; rw [rounds_succ]
      go_wp2
      go_ret
      exact ⟨.inr ⟨x, by simp [totP], ret_int (by simp), trivial⟩, Below.refl _ _⟩
    · have hne : ps ≠ [] := by intro h; subst h; simp at hn; omega
      obtain ⟨b, off, rfl, hlt, hc⟩ := hr.lt hne
      clear hr hne
      have hn' : Hid (ps.length = n) := hn
      have HC : Hid _ := hc
      have HI : Hid _ := hin
      clear hn hc hin
      go_enter Try.func121, Try.ntmps121
      go_wp2
      go_loopw [1, 5] (fun l i wr => ∃ k y : Nat, k ≤ n ∧ i = .int .i64 k ∧ l = .int .i64 y ∧ Hid (y + (n - k) + totP ((ps.take k).map PgR.D) ≤ x) ∧ Below w.heap.size w wr) (fun _ i _ => n - (intOf i).toNat)
      case atStart => exact ⟨0, x - n, Nat.zero_le _, rfl, by go_num, by show _ ≤ _; simp [totP]; omega, Below.refl _ _⟩
      case round =>
        obtain ⟨k, y, hk, rfl, rfl, hy, hB⟩ := hrel
        by_cases hkn : k < n
        · have hkl : k < ps.length := by rw [hn'.out]; exact hkn
          have hki : (k : Int) < (n : Int) := by omega
          obtain ⟨r, hrk⟩ : ∃ r, ps[k]? = some r := ⟨_, List.getElem?_eq_getElem hkl⟩
          obtain ⟨x6, xr⟩ := HC.out k r hrk
          have hyo := hy.out
          have hcall := szPage_w r.used r.a r.zs.length r.cap y wr (HI.out r (List.mem_of_getElem? hrk)).len (by omega)
          have hcn : Hid (totP ((ps.take (k + 1)).map PgR.D) = totP ((ps.take k).map PgR.D) + (1 + r.zs.length)) := by show _ = _; rw [List.take_add_one, hrk]; simp [totP, PgR.D]
          obtain ⟨x0, x1⟩ := x6.keep hB hlt
          have hwz := hB.size
          obtain ⟨n1, hn1⟩ : ∃ n, r.zs.length = n := ⟨_, rfl⟩
          rw [hn1] at x1 hcall hcn
          clear x6 xr hn1 hrk hkl hyo
          go_wp2_with fail
          refine hcall.mono ?_
          rintro e w1 ⟨(rfl | ⟨v, hv, rfl, _⟩), hb1⟩
          · go_wp2
            go_ret
            exact ⟨.inl rfl, hB.trans (hb1.mono hwz)⟩
          · clear x0 x1 hcall
            go_wp2
            go_roundw
            case rel => exact ⟨k + 1, v, by omega, by go_num, rfl, by show _ ≤ _; have := hcn.out; have := hy.out; omega, hB.trans (hb1.mono hwz)⟩
            case measure => simp [intOf]; omega
        · have hki : ¬ (k : Int) < (n : Int) := by omega
          go_wp2
          go_ret
          have hyo := hy.out
          rw [List.take_of_length_le (by rw [hn'.out]; omega)] at hyo
          exact ⟨.inr ⟨y, by omega, rfl, trivial⟩, hB⟩
set_option maxHeartbeats 1600000 in
theorem szBlock_w (a : Option Addr) (n cap x : Nat) (wear : Int) (bad : Bool) (ps : List PgR) (w : World) (hn : ps.length = n) (hm : n ≤ maxLen) (hx : x ≤ 1048576) (hin : ∀ r ∈ ps, PgIn r) (hr : RdPs w a ps) :
    Calls Try.prog 103 #[.agg #[.slice a n cap, .int .i64 wear, .bool bad], .int .i64 x] w fun e w' => SzQ x (totP (ps.map PgR.D)) True e ∧ Below w.heap.size w w' := by
  have B0 : Below w.heap.size w (w.alloc (.cells #[.slice a n cap, .int .i64 wear, .bool bad] 148)) := (Below.refl _ w).alloc (Nat.le_refl _) _
  have hcall := szPageS_w a n cap x ps (w.alloc (.cells #[.slice a n cap, .int .i64 wear, .bool bad] 148)) hn hm hx hin (hr.keep B0)
  have HB : Hid _ := B0
  clear B0 hin hr hn
  go_enter Try.func103, Try.ntmps103
  go_wp2_with fail
  refine hcall.mono ?_
  rintro e w1 ⟨(rfl | ⟨v, hv, rfl, hzz⟩), hb1⟩
  · go_wp2
    go_ret
    exact ⟨.inl rfl, HB.out.trans (hb1.mono HB.out.size)⟩
  · go_wp2
    go_ret
    exact ⟨.inr ⟨v, hv, rfl, trivial⟩, HB.out.trans (hb1.mono HB.out.size)⟩
set_option maxHeartbeats 1600000 in
theorem szBlockS_w (a : Option Addr) (n cap x : Nat) (bs : List BkR) (w : World) (hn : bs.length = n) (hm : n ≤ maxLen) (hx : x ≤ 1048576) (hin : ∀ r ∈ bs, BkIn r) (hr : RdBs w a bs) :
    Calls Try.prog 79 #[.slice a n cap, .int .i64 x] w fun e w' => SzQ x (totB (bs.map BkR.D)) True e ∧ Below w.heap.size w w' := by
  unfold maxLen at hm
  by_cases h : x < n
  · have h1 : ((x : Int) - (n : Int)) < 0 := by omega
    go_enter Try.func79, Try.ntmps79
    go_wp2
    go_ret
    exact ⟨.inl rfl, Below.refl _ _⟩
  · have h1 : ¬ ((x : Int) - (n : Int)) < 0 := by omega
    by_cases h0 : n = 0
    · subst h0
      obtain rfl : bs = [] := List.length_eq_zero_iff.1 hn
      go_enter Try.func79, Try.ntmps79
      go_wp2
      refine wp_loop_rounds 1 ?_; rw [rounds_succ]
      go_wp2
      go_ret
      exact ⟨.inr ⟨x, by simp [totB], ret_int (by simp), trivial⟩, Below.refl _ _⟩
    · have hne : bs ≠ [] := by intro h; subst h; simp at hn; omega
      obtain ⟨b, off, rfl, hlt, hc⟩ := hr.lt hne
      clear hr hne
      have hn' : Hid (bs.length = n) := hn
      have HC : Hid _ := hc
      have HI : Hid _ := hin
      clear hn hc hin
      go_enter Try.func79, Try.ntmps79
      go_wp2
      go_loopw [1, 5] (fun l i wr => ∃ k y : Nat, k ≤ n ∧ i = .int .i64 k ∧ l = .int .i64 y ∧ Hid (y + (n - k) + totB ((bs.take k).map BkR.D) ≤ x) ∧ Below w.heap.size w wr) (fun _ i _ => n - (intOf i).toNat)
      case atStart => exact ⟨0, x - n, Nat.zero_le _, rfl, by go_num, by show _ ≤ _; simp [totB]; omega, Below.refl _ _⟩
      case round =>
        obtain ⟨k, y, hk, rfl, rfl, hy, hB⟩ := hrel
        by_cases hkn : k < n
        · have hkl : k < bs.length := by rw [hn'.out]; exact hkn
          have hki : (k : Int) < (n : Int) := by omega
          obtain ⟨r, hrk⟩ : ∃ r, bs[k]? = some r := ⟨_, List.getElem?_eq_getElem hkl⟩
          obtain ⟨x6, xr⟩ := HC.out k r hrk
          have hyo := hy.out
          have hri := HI.out r (List.mem_of_getElem? hrk)
          have hcall := szBlock_w r.a r.ps.length r.cap y r.wear r.bad r.ps wr rfl hri.len (by omega) hri.ps (xr.keep hB)
          have hcn : Hid (totB ((bs.take (k + 1)).map BkR.D) = totB ((bs.take k).map BkR.D) + (1 + totP (r.ps.map PgR.D))) := by show _ = _; rw [List.take_add_one, hrk]; simp [totB, BkR.D]
          obtain ⟨x0, x1, x2⟩ := x6.keep hB hlt
          have hwz := hB.size
          obtain ⟨n1, hn1⟩ : ∃ n, r.ps.length = n := ⟨_, rfl⟩
          obtain ⟨n2, hn2⟩ : ∃ n, totP (r.ps.map PgR.D) = n := ⟨_, rfl⟩
          rw [hn1] at x0 hcall
          rw [hn2] at hcall hcn
          clear x6 xr hn1 hn2 hrk hkl hyo hri
          go_wp2_with fail
          refine hcall.mono ?_
          rintro e w1 ⟨(rfl | ⟨v, hv, rfl, _⟩), hb1⟩
          · go_wp2
            go_ret
            exact ⟨.inl rfl, hB.trans (hb1.mono hwz)⟩
          · clear x0 x1 x2 hcall
            go_wp2
            go_roundw
            case rel => exact ⟨k + 1, v, by omega, by go_num, rfl, by show _ ≤ _; have := hcn.out; have := hy.out; omega, hB.trans (hb1.mono hwz)⟩
            case measure => simp [intOf]; omega
        · have hki : ¬ (k : Int) < (n : Int) := by omega
          go_wp2
          go_ret
          have hyo := hy.out
          rw [List.take_of_length_le (by rw [hn'.out]; omega)] at hyo
          exact ⟨.inr ⟨y, by omega, rfl, trivial⟩, hB⟩
set_option maxHeartbeats 1600000 in
theorem szChip_w (a : Option Addr) (n cap x : Nat) (bs : List BkR) (w : World) (hn : bs.length = n) (hm : n ≤ maxLen) (hx : x ≤ 1048576) (hin : ∀ r ∈ bs, BkIn r) (hr : RdBs w a bs) :
    Calls Try.prog 52 #[.agg #[.slice a n cap], .int .i64 x] w fun e w' => SzQ x (totB (bs.map BkR.D)) True e ∧ Below w.heap.size w w' := by
  have B0 : Below w.heap.size w (w.alloc (.cells #[.slice a n cap] 24)) := (Below.refl _ w).alloc (Nat.le_refl _) _
  have hcall := szBlockS_w a n cap x bs (w.alloc (.cells #[.slice a n cap] 24)) hn hm hx hin (hr.keep B0)
  have HB : Hid _ := B0
  clear B0 hin hr hn
  go_enter Try.func52, Try.ntmps52
  go_wp2_with fail
  refine hcall.mono ?_
  rintro e w1 ⟨(rfl | ⟨v, hv, rfl, hzz⟩), hb1⟩
  · go_wp2
    go_ret
    exact ⟨.inl rfl, HB.out.trans (hb1.mono HB.out.size)⟩
  · go_wp2
    go_ret
    exact ⟨.inr ⟨v, hv, rfl, trivial⟩, HB.out.trans (hb1.mono HB.out.size)⟩
end

section
open Go.RowKit
/-- A chip that can be read. -/
structure CR (w : World) (a : Option Addr) (n : Nat) (bs : List BkR) : Prop where
  len : bs.length = n
  tot : totB (bs.map BkR.D) ≤ 1048576
  rd : RdBs w a bs
theorem CR.keep {w w' : World} {a : Option Addr} {n : Nat} {bs : List BkR} (h : CR w a n bs) (hb : Below w.heap.size w w') : CR w' a n bs := ⟨h.len, h.tot, h.rd.keep hb⟩
theorem CR.n {w : World} {a : Option Addr} {n : Nat} {bs : List BkR} (h : CR w a n bs) : n ≤ 1048576 := by
  have := totB_len (bs.map BkR.D)
  have h1 := h.tot
  have h2 := h.len
  simp at this
  omega
theorem CR.some {w : World} {a : Option Addr} {n k : Nat} {bs : List BkR} (h : CR w a n bs) (hk : k < n) : ∃ b off r, a = some ⟨b, off, none⟩ ∧ b < w.heap.size ∧ bs[k]? = .some r ∧ ThreeB w b (off + k * 3) r ∧ RdPs w r.a r.ps ∧ totP (r.ps.map PgR.D) ≤ 1048576 := by
  have hl := h.len
  have hrk : bs[k]? = .some bs[k] := List.getElem?_eq_getElem (by omega)
  obtain ⟨b, off, e, hlt, hc⟩ := h.rd.lt (by intro h0; subst h0; simp at hl; omega)
  have := totB_at hrk
  have h3 := h.tot
  exact ⟨b, off, bs[k], e, hlt, hrk, (hc k _ hrk).1, (hc k _ hrk).2, by omega⟩
/-- How many pages are written. -/
def nextP (ps : List PgD) : Nat := (ps.filter PgD.used).length
theorem nextP_snoc (ps : List PgD) (p : PgD) : nextP (ps ++ [p]) = nextP ps + (if p.used then 1 else 0) := by
  unfold nextP
  rw [List.filter_append]
  cases h : p.used <;> simp [h]
theorem nextP_take {ps : List PgR} {k : Nat} {p : PgR} (h : ps[k]? = some p) : nextP ((ps.take (k + 1)).map PgR.D) = nextP ((ps.take k).map PgR.D) + (if p.used then 1 else 0) := by
  rw [List.take_add_one, h]
  simp only [Option.toList_some, List.map_append, List.map_cons, List.map_nil]
  rw [nextP_snoc]
  rfl
theorem nextP_le (ps : List PgD) : nextP ps ≤ ps.length := List.length_filter_le _ _
set_option maxRecDepth 100000 in
set_option maxHeartbeats 4000000 in
theorem writtenI (a : Option Addr) (n cap : Nat) (ps : List PgR) (w : World) (hn : ps.length = n) (hs : totP (ps.map PgR.D) ≤ 1048576) (hr : RdPs w a ps) :
    Calls Try.prog 56 #[.slice a n cap] w fun e w' => e = .returned (.int .i64 (nextP (ps.map PgR.D) : Nat)) ∧ Below w.heap.size w w' := by
  have HT : Hid (RdPs w a ps) := hr
  have hl := totP_len (ps.map PgR.D)
  have hn1 : n ≤ 1048576 := by simp at hl; omega
  have hln : Hid (ps.length = n) := hn
  clear hr hs hl hn
  go_enter Try.func56, Try.ntmps56
  go_wp2
  go_loopw [3, 8] (fun c i wr => ∃ (k : Nat) (m : Nat), k ≤ n ∧ i = .int .i64 k ∧ c = .int .i64 m ∧ m ≤ k ∧ Hid (nextP ((ps.take k).map PgR.D) = m) ∧ Hid (Below w.heap.size w wr)) (fun _ i _ => n - (intOf i).toNat)
  case atStart => exact ⟨0, 0, Nat.zero_le _, rfl, rfl, Nat.le_refl _, rfl, Below.refl _ _⟩
  case round =>
    obtain ⟨k, m, hk, rfl, rfl, hmk, hm, hB⟩ := hrel
    by_cases hkn : k < n
    · have hki : (k : Int) < (n : Int) := by omega
      obtain ⟨r, hrk⟩ : ∃ r, ps[k]? = some r := ⟨_, List.getElem?_eq_getElem (by rw [hln.out]; exact hkn)⟩
      obtain ⟨b, off, rfl, hlt, hc⟩ := RdPs.lt (HT.out.keep hB.out) (by intro h; rw [h] at hrk; simp at hrk)
      obtain ⟨⟨x0, x1⟩, _⟩ := hc k _ hrk
      have hnx := nextP_take hrk
      have hmm := hm.out
      obtain ⟨n1, hn1⟩ : ∃ n1, r.zs.length = n1 := ⟨_, rfl⟩
      rw [hn1] at x1
      have hB' : Hid (∀ o : Obj, Below w.heap.size w (wr.alloc o)) := fun o => hB.out.alloc hB.out.size o
      cases hu : r.used
      · rw [hu] at x0 hnx
        have HN : Hid (nextP ((ps.take (k + 1)).map PgR.D) = m) := by show _ = _; rw [hnx, hmm]; rfl
        clear hnx hmm hrk hu hc hn1
        go_wp2
        go_roundw
        case rel => exact ⟨k + 1, m, by omega, by go_num, rfl, by omega, HN, hB'.out _⟩
        case measure => simp [intOf]; omega
      · rw [hu] at x0 hnx
        have HN : Hid (nextP ((ps.take (k + 1)).map PgR.D) = m + 1) := by show _ = _; rw [hnx, hmm]; rfl
        clear hnx hmm hrk hu hc hn1
        go_wp2
        go_roundw
        case rel => exact ⟨k + 1, m + 1, by omega, by go_num, by go_num, by omega, HN, hB'.out _⟩
        case measure => simp [intOf]; omega
    · have hki : ¬ (k : Int) < (n : Int) := by omega
      go_wp2
      go_ret
      have := hm.out
      rw [List.take_of_length_le (by rw [hln.out]; omega)] at this
      exact ⟨by rw [this]; rfl, hB.out⟩
set_option maxHeartbeats 1600000 in
theorem hasBk (a : Option Addr) (n cap : Nat) (x : Int) (w : World) (_hn : n ≤ 1048576) :
    Calls Try.prog 86 #[.slice a n cap, .int .i64 x] w fun e w' => e = .returned (.bool (decide (0 ≤ x) && decide (x < (n : Int)))) ∧ w' = w := by
  go_enter Try.func86, Try.ntmps86
  by_cases h1 : 0 ≤ x
  · by_cases h2 : x < (n : Int)
    · go_wp2
      go_ret
      exact ⟨by simp [h1, h2], rfl⟩
    · go_wp2
      go_ret
      exact ⟨by simp [h2], rfl⟩
  · go_wp2
    go_ret
    exact ⟨by simp; omega, rfl⟩
set_option maxHeartbeats 1600000 in
theorem hasPg (a : Option Addr) (n cap : Nat) (x : Int) (w : World) (_hn : n ≤ 1048576) :
    Calls Try.prog 87 #[.slice a n cap, .int .i64 x] w fun e w' => e = .returned (.bool (decide (0 ≤ x) && decide (x < (n : Int)))) ∧ w' = w := by
  go_enter Try.func87, Try.ntmps87
  by_cases h1 : 0 ≤ x
  · by_cases h2 : x < (n : Int)
    · go_wp2
      go_ret
      exact ⟨by simp [h1, h2], rfl⟩
    · go_wp2
      go_ret
      exact ⟨by simp [h2], rfl⟩
  · go_wp2
    go_ret
    exact ⟨by simp; omega, rfl⟩
end
end Go.Proofs.Ytcocjffjhbpoeaa
