/-
  Joined: ChAp, ChFn.
-/
import Derived.Test.YtcohppfocfepdaaDoorJ09P
namespace Go.Proofs.YtcohppfocfepdaaDoor
section
open Go.RowKit
/-- A block onto a row of blocks of the call's own. -/
structure AppK (W : World) (v : Value) (us : List BkR) (v' : Value) (W' : World) : Prop where
  own : OwnE bkE 34 W' v' us.length us
  gr : W.grownBy W' v.ownBlock
  at_ : v'.ownBlock = v.ownBlock ∨ v'.ownBlock = some W.heap.size
theorem three_news (w : World) (v0 v1 v2 : Value) (t : TypeId) : ∀ j u, [v0, v1, v2][j]? = some u → (w.alloc (.cells #[v0, v1, v2] t)).cell? ((⟨w.heap.size, 0, none⟩ : Addr).add j) = some u := by
  intro j u hj
  have zb := Blk.new w t #[v0, v1, v2]
  rw [add_at]
  have := zb.cell j
  rw [this]
  simpa using hj
theorem app_block (W : World) (v : Value) (us : List BkR) (k : Nat) (hk : us.length = k) (hs : k + 1 ≤ 8000000) (hown : OwnE bkE 34 W v k us) (p : BkR) (ty : TypeId) (n1 : Nat) (hn1 : p.ps.length = n1) :
    ∃ v' W', (Builtin.append_ #[24, 24] ty #[v, .slice (some ⟨W.heap.size, 0, none⟩) 1 1]).run Tryd.prog (W.alloc (.cells #[.slice p.a n1 p.cap, .int .i64 p.wear, .bool p.bad] 34)) = .ok v' W' ∧ AppK (W.alloc (.cells #[.slice p.a n1 p.cap, .int .i64 p.wear, .bool p.bad] 34)) v (us ++ [p]) v' W' := by
  obtain ⟨i0, hi, hz0, hz1, hz2⟩ := info_parts Tryd.infoBlock
  subst hn1
  obtain ⟨v', W', h1, h2, h3, h4⟩ := run_appAny (W.alloc (.cells #[.slice p.a p.ps.length p.cap, .int .i64 p.wear, .bool p.bad] 34)) 0 24 ty 34 i0 (.agg #[.slice none 0 0, .int .i64 0, .bool false]) 3 40 Tryd.underlying24 hi hz0 hz1 hz2 rfl (by omega) v k (bkE.xv us) (World.ownsRow.alloc hown _) (some ⟨W.heap.size, 0, none⟩) 1 1 (bkE.xv [p]) (by rw [bkE.xv_length]; rfl) (.inr ⟨_, rfl, fun j u hj => by
      have := three_news W (.slice p.a p.ps.length p.cap) (.int .i64 p.wear) (.bool p.bad) 34 j u
      exact this (by simpa [El.xv, bkE] using hj)⟩) (fun u hu => by simp [El.xv, bkE] at hu; rcases hu with rfl | rfl | rfl <;> rfl) hs (by omega) (Nat.zero_le _)
  exact ⟨v', W', h1, ⟨by unfold OwnE; rw [List.length_append, hk, bkE.xv_append]; exact h2, h3, h4⟩⟩
/-- While blocks are put one by one into the box X. -/
structure CC (w0 wr : World) (X : Nat) (v : Value) (us : List BkR) (ds : List BkD) : Prop where
  bel : Below w0.heap.size w0 wr
  x : Blk wr X 26 #[v]
  xn : w0.heap.size ≤ X
  row : OwnE bkE 34 wr v us.length us
  inn : Inn bkK wr w0.heap.size ds us
  xi : X ∉ bkK.fps us
  vn : ∀ g, v.ownBlock = some g → w0.heap.size ≤ g ∧ g ≠ X ∧ g ∉ bkK.fps us
theorem CC.keep {w0 wr w' : World} {X : Nat} {v : Value} {us : List BkR} {ds : List BkD} (h : CC w0 wr X v us ds) (hb : Below wr.heap.size wr w') : CC w0 w' X v us ds :=
  ⟨h.bel.trans (hb.mono h.bel.size), h.x.keep hb, h.xn, h.row.keep hb, h.inn.keep hb, h.xi, h.vn⟩
theorem CC.new {w0 W : World} {X : Nat} (hb : Below w0.heap.size w0 W) (hx : Blk W X 26 #[.slice none 0 0]) (hX : w0.heap.size ≤ X) : CC w0 W X (.slice none 0 0) [] [] :=
  ⟨hb, hx, hX, ownE_nil _ _ _, Inn.nil _ _ _, by simp [Kd.fps], fun g hg => by simp [Value.ownBlock] at hg⟩
/-- One block more: q lies from the size of W8 on. -/
theorem CC.step {w0 W8 W9 W10 : World} {X k m n1 : Nat} {v : Value} {us : List BkR} {ds : List BkD} {a1 a2 : Option Addr} {c1 c2 : Nat} {wear : Int} {bad : Bool} {qd : List PgD} {qs : List PgR} {o : Obj} (h : CC w0 W8 X v us ds) (_hus : us.length = k) (hq : qs.length = n1) (b9 : Below W8.heap.size W8 W9)
    (hnp : NewPs W9 W8.heap.size (.slice a1 n1 c1) qd qs) (ha : AppK (W9.alloc o) v (us ++ [⟨a1, c1, qs, wear, bad⟩]) (.slice a2 m c2) W10) (hm : m = k + 1) : CC w0 (W10.setCell ⟨X, 0, none⟩ (.slice a2 (k + 1) c2)) X (.slice a2 (k + 1) c2) (us ++ [⟨a1, c1, qs, wear, bad⟩]) (ds ++ [⟨qd, wear, bad⟩]) := by
  subst hm
  subst hq
  obtain ⟨p, hp⟩ : ∃ p : BkR, p = ⟨a1, c1, qs, wear, bad⟩ := ⟨_, rfl⟩
  have hpv : p.v = .slice a1 qs.length c1 := by rw [hp]; rfl
  have hpp : p.ps = qs := by rw [hp]
  have hpD : p.D = ⟨qd, wear, bad⟩ := by rw [hp]; unfold BkR.D; rw [hnp.D]
  rw [← hp] at ha ⊢
  rw [← hpD]
  have hfp : bkK.fp p = fpPs (.slice a1 qs.length c1) qs := by show fpPs p.v p.ps = _; rw [hpv, hpp]
  have hS : ∀ g ∈ bkK.fps us, g < W8.heap.size := fun g hg => h.inn.lt g hg
  have hpB : ∀ g ∈ bkK.fp p, W8.heap.size ≤ g := fun g hg => hnp.new g (by rw [← hfp]; exact hg)
  have hpo0 : bkK.own W9 p := by show OwnPs W9 p.v p.ps; rw [hpv, hpp]; exact hnp.own
  have bA : Below W9.heap.size W9 (W9.alloc o) := (Below.refl _ W9).alloc (Nat.le_refl _) _
  have h1 := (h.keep b9).keep bA
  have hp1 : bkK.own (W9.alloc o) p := bkK.block hpo0 fun g hg => bA.block g (bkK.lt hpo0 g hg)
  have hvB : ∀ g, v.ownBlock = some g → g < W8.heap.size := fun g hg => h.row.lt hg
  have hXB : X < W8.heap.size := h.x.lt
  have hXv : v.ownBlock ≠ some X := fun e => (h.vn X e).2.1 rfl
  have hvp : ∀ g ∈ bkK.fp p, v.ownBlock ≠ some g := fun g hg e => by have := hpB g hg; have := hvB g e; omega
  have hbel : Below w0.heap.size w0 W10 := h1.bel.grown ha.gr h1.bel.size (fun g hg => (h.vn g hg).1)
  have hx : Blk W10 X 26 #[v] := (ha.gr.block X h1.x.lt (fun e => hXv e.symm)).trans h1.x
  have hin : Inn bkK W10 w0.heap.size ds us := h1.inn.block fun g hg => ha.gr.block g (h1.inn.lt g hg) (fun e => (h.vn g e.symm).2.2 hg)
  have hpo : bkK.own W10 p := bkK.block hp1 fun g hg => ha.gr.block g (bkK.lt hp1 g hg) (fun e => hvp g hg e.symm)
  have hpx : X ∉ bkK.fp p := fun hf => by have := hpB X hf; omega
  have hset : ∀ g, g ≠ X → (W10.setCell ⟨X, 0, none⟩ (.slice a2 (k + 1) c2)).heap[g]? = W10.heap[g]? := fun g hg => Below.heap_setCell _ _ _ _ hg
  have hfs : bkK.fps (us ++ [p]) = bkK.fps us ++ bkK.fp p := by simp [Kd.fps]
  have hs9 := b9.size
  have hv'X : ∀ g, (Value.slice a2 (k + 1) c2).ownBlock = some g → w0.heap.size ≤ g ∧ g ≠ X ∧ g ∉ bkK.fps (us ++ [p]) := fun g hg => by
    rw [hfs]
    rcases ha.at_ with e | e
    · rw [hg] at e
      have h2 := h.vn g e.symm
      refine ⟨h2.1, h2.2.1, fun hf => ?_⟩
      rcases List.mem_append.1 hf with h3 | h3
      · exact h2.2.2 h3
      · exact hvp g h3 e.symm
    · rw [hg] at e
      simp at e
      have := h.bel.size
      refine ⟨by omega, by omega, fun hf => ?_⟩
      rcases List.mem_append.1 hf with h3 | h3
      · have := hS g h3; omega
      · have h4 := bkK.lt hpo0 g h3; omega
  have hin' : Inn bkK (W10.setCell ⟨X, 0, none⟩ (.slice a2 (k + 1) c2)) w0.heap.size ds us := hin.block fun g hg => hset g (fun e => by subst e; exact h.xi hg)
  have hpo' : bkK.own (W10.setCell ⟨X, 0, none⟩ (.slice a2 (k + 1) c2)) p := bkK.block hpo fun g hg => hset g (fun e => by subst e; exact hpx hg)
  refine ⟨hbel.setCell (p := ⟨X, 0, none⟩) h.xn _, ?_, h.xn, ha.own.block fun g hg => hset g (hv'X g hg).2.1, ?_, ?_, hv'X⟩
  · exact hx.set 0 (.slice a2 (k + 1) c2)
  · have h8 := h.bel.size
    exact hin'.snoc (S := W8.heap.size) hS hpo' (fun g hg => by have := hpB g hg; exact ⟨this, by omega⟩) (by rw [hfp]; exact hnp.nd)
  · rw [hfs]
    exact fun hf => (List.mem_append.1 hf).elim h.xi hpx
/-- What was built, told. -/
theorem CC.done {w0 W : World} {X n c : Nat} {a : Option Addr} {us : List BkR} {ds : List BkD} (h : CC w0 W X (.slice a n c) us ds) (_hn : us.length = n) : NewBs W w0.heap.size (.slice a n c) ds us :=
  h.inn.newBs h.row (Nat.le_refl _) (fun g hg => ⟨(h.vn g hg).1, (h.vn g hg).2.2⟩)
end

section
open Go.RowKit
/-- A chip that can be read. -/
structure CR (w : World) (a : Option Addr) (n : Nat) (bs : List BkR) : Prop where
  len : bs.length = n
  tot : totB (bs.map BkR.D) ≤ 1048576
  rd : RdBs w a bs
theorem CR.keep {w w' : World} {a : Option Addr} {n : Nat} {bs : List BkR} (h : CR w a n bs) (hb : Below w.heap.size w w') : CR w' a n bs := ⟨h.len, h.tot, h.rd.keep hb⟩
theorem CR.n {w : World} {a : Option Addr} {n : Nat} {bs : List BkR} (h : CR w a n bs) : n ≤ 1048576 := by
  have := totB_len (bs.map BkR.D)
  have h1 := h.tot
  have h2 := h.len
  simp at this
  omega
theorem CR.some {w : World} {a : Option Addr} {n k : Nat} {bs : List BkR} (h : CR w a n bs) (hk : k < n) : ∃ b off r, a = some ⟨b, off, none⟩ ∧ b < w.heap.size ∧ bs[k]? = .some r ∧ ThreeB w b (off + k * 3) r ∧ RdPs w r.a r.ps ∧ totP (r.ps.map PgR.D) ≤ 1048576 := by
  have hl := h.len
  have hrk : bs[k]? = .some bs[k] := List.getElem?_eq_getElem (by omega)
  obtain ⟨b, off, e, hlt, hc⟩ := h.rd.lt (by intro h0; subst h0; simp at hl; omega)
  have := totB_at hrk
  have h3 := h.tot
  exact ⟨b, off, bs[k], e, hlt, hrk, (hc k _ hrk).1, (hc k _ hrk).2, by omega⟩
/-- What all blocks were erased, together, as a machine's number. -/
def wornL (l : List Int) : Int := l.foldl (fun n x => wrap64 (n + x)) 0
theorem wornL_snoc (l : List Int) (x : Int) : wornL (l ++ [x]) = wrap64 (wornL l + x) := by simp [wornL]
def wornD (ds : List BkD) : Int := wornL (ds.map BkD.wear)
theorem wornD_take {bs : List BkR} {k : Nat} {r : BkR} (h : bs[k]? = some r) : wornD ((bs.take (k + 1)).map BkR.D) = wrap64 (wornD ((bs.take k).map BkR.D) + r.wear) := by
  rw [List.take_add_one, h]
  simp only [Option.toList_some, wornD, List.map_append, List.map_cons, List.map_nil]
  rw [wornL_snoc]
  rfl
set_option maxRecDepth 100000 in
set_option maxHeartbeats 4000000 in
theorem wornI (a : Option Addr) (n cap : Nat) (bs : List BkR) (w : World) (ht : CR w a n bs) :
    Calls Tryd.prog 12 #[.agg #[.slice a n cap]] w fun e w' => e = .returned (.int .i64 (wornD (bs.map BkR.D))) ∧ Below w.heap.size w w' := by
  have B0 : Below w.heap.size w (w.alloc (.cells #[.slice a n cap] 26)) := (Below.refl _ w).alloc (Nat.le_refl _) _
  have HT : Hid _ := ht.keep B0
  have HB : Hid _ := B0
  have hn1 := ht.n
  have hln : Hid (bs.length = n) := ht.len
  clear ht B0
  go_enter Tryd.func12, Tryd.ntmps12
  go_wp2
  obtain ⟨W0, hW0⟩ : ∃ W, w.alloc (.cells #[.slice a n cap] 26) = W := ⟨_, rfl⟩
  rw [hW0] at HB HT ⊢
  clear hW0
  go_loopw [3, 9] (fun c i wr => ∃ (k : Nat) (m : Int), k ≤ n ∧ i = .int .i64 k ∧ c = .int .i64 m ∧ Hid (wornD ((bs.take k).map BkR.D) = m) ∧ Hid (Below W0.heap.size W0 wr)) (fun _ i _ => n - (intOf i).toNat)
  case atStart => exact ⟨0, 0, Nat.zero_le _, rfl, rfl, rfl, Below.refl _ _⟩
  case round =>
    obtain ⟨k, m, hk, rfl, rfl, hm, hB⟩ := hrel
    by_cases hkn : k < n
    · have hki : (k : Int) < (n : Int) := by omega
      obtain ⟨b, off, r, rfl, hlt, hrk, x3, _, _⟩ := (HT.out.keep hB.out).some hkn
      obtain ⟨x0, x1, x2⟩ := x3
      have hnx : Hid (wornD ((bs.take (k + 1)).map BkR.D) = wrap64 (m + r.wear)) := by show _ = _; rw [wornD_take hrk, hm.out]
      obtain ⟨n1, hn1⟩ : ∃ n1, r.ps.length = n1 := ⟨_, rfl⟩
      rw [hn1] at x0
      clear hrk hn1
      go_wp2
      go_roundw
      case rel => exact ⟨k + 1, _, by omega, by go_num, rfl, hnx, hB.out.alloc hB.out.size _⟩
      case measure => simp [intOf]; omega
    · have hki : ¬ (k : Int) < (n : Int) := by omega
      go_wp2
      go_ret
      have := hm.out
      rw [List.take_of_length_le (by rw [hln.out]; omega)] at this
      exact ⟨by rw [this]; rfl, HB.out.trans (hB.out.mono HB.out.size)⟩
/-- How many pages are written. -/
def nextP (ps : List PgD) : Nat := (ps.filter PgD.used).length
theorem nextP_snoc (ps : List PgD) (p : PgD) : nextP (ps ++ [p]) = nextP ps + (if p.used then 1 else 0) := by
  unfold nextP
  rw [List.filter_append]
  cases h : p.used <;> simp [h]
theorem nextP_take {ps : List PgR} {k : Nat} {p : PgR} (h : ps[k]? = some p) : nextP ((ps.take (k + 1)).map PgR.D) = nextP ((ps.take k).map PgR.D) + (if p.used then 1 else 0) := by
  rw [List.take_add_one, h]
  simp only [Option.toList_some, List.map_append, List.map_cons, List.map_nil]
  rw [nextP_snoc]
  rfl
theorem nextP_le (ps : List PgD) : nextP ps ≤ ps.length := List.length_filter_le _ _
set_option maxRecDepth 100000 in
set_option maxHeartbeats 4000000 in
theorem l10NextS (a : Option Addr) (n cap : Nat) (wear : Int) (bad : Bool) (ps : List PgR) (w : World) (hn : ps.length = n) (hs : totP (ps.map PgR.D) ≤ 1048576) (hr : RdPs w a ps) :
    Calls Tryd.prog 53 #[.agg #[.slice a n cap, .int .i64 wear, .bool bad]] w fun e w' => e = .returned (.int .i64 (nextP (ps.map PgR.D) : Nat)) ∧ Below w.heap.size w w' := by
  have B0 : Below w.heap.size w (w.alloc (.cells #[.slice a n cap, .int .i64 wear, .bool bad] 34)) := (Below.refl _ w).alloc (Nat.le_refl _) _
  have z0 := Blk.new w 34 #[.slice a n cap, .int .i64 wear, .bool bad]
  have HT : Hid (RdPs (w.alloc (.cells #[.slice a n cap, .int .i64 wear, .bool bad] 34)) a ps) := hr.keep B0
  have HB : Hid _ := B0
  have hl := totP_len (ps.map PgR.D)
  have hn1 : n ≤ 1048576 := by simp at hl; omega
  have hln : Hid (ps.length = n) := hn
  clear hr B0 hs hl hn
  obtain ⟨H, hH⟩ : ∃ H, w.heap.size = H := ⟨_, rfl⟩
  rw [hH] at z0
  go_enter Tryd.func53, Tryd.ntmps53
  go_wp2
  obtain ⟨W0, hW0⟩ : ∃ W, w.alloc (.cells #[.slice a n cap, .int .i64 wear, .bool bad] 34) = W := ⟨_, rfl⟩
  rw [hW0] at z0 HB HT ⊢
  clear hW0
  try rw [hH]
  go_loopw [3, 4] (fun c i wr => ∃ (k : Nat) (m : Nat), k ≤ n ∧ i = .int .i64 k ∧ c = .int .i64 m ∧ m ≤ k ∧ Hid (nextP ((ps.take k).map PgR.D) = m) ∧ wr = W0) (fun _ i _ => n - (intOf i).toNat)
  case atStart => exact ⟨0, 0, Nat.zero_le _, rfl, rfl, Nat.le_refl _, rfl, rfl⟩
  case round =>
    obtain ⟨k, m, hk, rfl, rfl, hmk, hm, hw⟩ := hrel
    subst hw
    have t0 := z0.cell 0
    simp at t0
    by_cases hkn : k < n
    · have hki : (k : Int) < (n : Int) := by omega
      obtain ⟨r, hrk⟩ : ∃ r, ps[k]? = some r := ⟨_, List.getElem?_eq_getElem (by rw [hln.out]; exact hkn)⟩
      obtain ⟨b, off, rfl, hlt, hc⟩ := RdPs.lt HT.out (by intro h; rw [h] at hrk; simp at hrk)
      obtain ⟨⟨x0, x1⟩, _⟩ := hc k _ hrk
      have hnx := nextP_take hrk
      have hmm := hm.out
      cases hu : r.used
      · rw [hu] at x0 hnx
        have HN : Hid (nextP ((ps.take (k + 1)).map PgR.D) = m) := by show _ = _; rw [hnx, hmm]; rfl
        clear hnx hmm hrk x1 hu hc
        go_wp2
        go_roundw
        case rel => exact ⟨k + 1, m, by omega, by go_num, rfl, by omega, HN, trivial⟩
        case measure => simp [intOf]; omega
      · rw [hu] at x0 hnx
        have HN : Hid (nextP ((ps.take (k + 1)).map PgR.D) = m + 1) := by show _ = _; rw [hnx, hmm]; rfl
        clear hnx hmm hrk x1 hu hc
        go_wp2
        go_roundw
        case rel => exact ⟨k + 1, m + 1, by omega, by go_num, by go_num, by omega, HN, trivial⟩
        case measure => simp [intOf]; omega
    · have hki : ¬ (k : Int) < (n : Int) := by omega
      go_wp2
      go_ret
      have := hm.out
      rw [List.take_of_length_le (by rw [hln.out]; omega)] at this
      rw [← hH]
      exact ⟨by rw [this]; rfl, HB.out⟩
set_option maxRecDepth 100000 in
set_option maxHeartbeats 4000000 in
theorem writtenI (a : Option Addr) (n cap : Nat) (ps : List PgR) (w : World) (hn : ps.length = n) (hs : totP (ps.map PgR.D) ≤ 1048576) (hr : RdPs w a ps) :
    Calls Tryd.prog 27 #[.slice a n cap] w fun e w' => e = .returned (.int .i64 (nextP (ps.map PgR.D) : Nat)) ∧ Below w.heap.size w w' := by
  have HT : Hid (RdPs w a ps) := hr
  have hl := totP_len (ps.map PgR.D)
  have hn1 : n ≤ 1048576 := by simp at hl; omega
  have hln : Hid (ps.length = n) := hn
  clear hr hs hl hn
  go_enter Tryd.func27, Tryd.ntmps27
  go_wp2
  go_loopw [3, 8] (fun c i wr => ∃ (k : Nat) (m : Nat), k ≤ n ∧ i = .int .i64 k ∧ c = .int .i64 m ∧ m ≤ k ∧ Hid (nextP ((ps.take k).map PgR.D) = m) ∧ Hid (Below w.heap.size w wr)) (fun _ i _ => n - (intOf i).toNat)
  case atStart => exact ⟨0, 0, Nat.zero_le _, rfl, rfl, Nat.le_refl _, rfl, Below.refl _ _⟩
  case round =>
    obtain ⟨k, m, hk, rfl, rfl, hmk, hm, hB⟩ := hrel
    by_cases hkn : k < n
    · have hki : (k : Int) < (n : Int) := by omega
      obtain ⟨r, hrk⟩ : ∃ r, ps[k]? = some r := ⟨_, List.getElem?_eq_getElem (by rw [hln.out]; exact hkn)⟩
      obtain ⟨b, off, rfl, hlt, hc⟩ := RdPs.lt (HT.out.keep hB.out) (by intro h; rw [h] at hrk; simp at hrk)
      obtain ⟨⟨x0, x1⟩, _⟩ := hc k _ hrk
      have hnx := nextP_take hrk
      have hmm := hm.out
      obtain ⟨n1, hn1⟩ : ∃ n1, r.zs.length = n1 := ⟨_, rfl⟩
      rw [hn1] at x1
      have hB' : Hid (∀ o : Obj, Below w.heap.size w (wr.alloc o)) := fun o => hB.out.alloc hB.out.size o
      cases hu : r.used
      · rw [hu] at x0 hnx
        have HN : Hid (nextP ((ps.take (k + 1)).map PgR.D) = m) := by show _ = _; rw [hnx, hmm]; rfl
        clear hnx hmm hrk hu hc hn1
        go_wp2
        go_roundw
        case rel => exact ⟨k + 1, m, by omega, by go_num, rfl, by omega, HN, hB'.out _⟩
        case measure => simp [intOf]; omega
      · rw [hu] at x0 hnx
        have HN : Hid (nextP ((ps.take (k + 1)).map PgR.D) = m + 1) := by show _ = _; rw [hnx, hmm]; rfl
        clear hnx hmm hrk hu hc hn1
        go_wp2
        go_roundw
        case rel => exact ⟨k + 1, m + 1, by omega, by go_num, by go_num, by omega, HN, hB'.out _⟩
        case measure => simp [intOf]; omega
    · have hki : ¬ (k : Int) < (n : Int) := by omega
      go_wp2
      go_ret
      have := hm.out
      rw [List.take_of_length_le (by rw [hln.out]; omega)] at this
      exact ⟨by rw [this]; rfl, hB.out⟩
/-- What NextPage answers. -/
def nextD (ds : List BkD) (x : Int) : Int := if 0 ≤ x then (match ds[x.toNat]? with | some b => (nextP b.ps : Nat) | none => -1) else -1
theorem nextD_in {bs : List BkR} {k : Nat} {r : BkR} (h : bs[k]? = some r) : nextD (bs.map BkR.D) (k : Int) = (nextP (r.ps.map PgR.D) : Nat) := by
  unfold nextD
  rw [if_pos (by omega)]
  simp [h, BkR.D]
theorem nextD_out {ds : List BkD} {x : Int} (h : ¬ (0 ≤ x ∧ x < (ds.length : Int))) : nextD ds x = -1 := by
  unfold nextD
  split
  · rw [List.getElem?_eq_none (by omega)]
  · rfl
set_option maxRecDepth 100000 in
set_option maxHeartbeats 4000000 in
theorem nextS (a : Option Addr) (n cap : Nat) (bs : List BkR) (x : Int) (w : World) (ht : CR w a n bs) :
    Calls Tryd.prog 36 #[.agg #[.slice a n cap], .int .i64 x] w fun e w' => e = .returned (.int .i64 (nextD (bs.map BkR.D) x)) ∧ Below w.heap.size w w' := by
  have B0 : Below w.heap.size w (w.alloc (.cells #[.slice a n cap] 26)) := (Below.refl _ w).alloc (Nat.le_refl _) _
  have hn1 := ht.n
  by_cases hx : 0 ≤ x ∧ x < (n : Int)
  · obtain ⟨k, rfl⟩ : ∃ k : Nat, x = (k : Int) := ⟨x.toNat, by omega⟩
    have hkn : k < n := by omega
    have h1 : ¬ (k : Int) < 0 := by omega
    have h2 : ¬ (n : Int) ≤ (k : Int) := by omega
    have hki : (k : Int) < (n : Int) := by omega
    obtain ⟨b, off, r, rfl, hlt, hrk, x3, hrp, htp⟩ := (ht.keep B0).some hkn
    obtain ⟨x0, x1, x2⟩ := x3
    have hcall := l10NextS r.a r.ps.length r.cap r.wear r.bad r.ps _ rfl htp hrp
    have hnx := nextD_in hrk
    rw [hnx]
    obtain ⟨n1, hn1⟩ : ∃ n1, r.ps.length = n1 := ⟨_, rfl⟩
    rw [hn1] at x0 hcall
    have HB : Hid _ := B0
    clear hnx hrk hn1 ht B0 hrp
    go_enter Tryd.func36, Tryd.ntmps36
    go_wp2_with fail
    refine hcall.mono ?_
    rintro e w1 ⟨rfl, hb1⟩
    clear hcall x0 x1 x2
    go_wp2
    go_ret
    exact ⟨rfl, HB.out.trans (hb1.mono HB.out.size)⟩
  · have hnx : nextD (bs.map BkR.D) x = -1 := nextD_out (by simpa [ht.len] using hx)
    rw [hnx]
    by_cases h1 : x < 0
    · go_enter Tryd.func36, Tryd.ntmps36
      go_wp2
      go_ret
      exact ⟨rfl, B0⟩
    · have h2 : (n : Int) ≤ x := by omega
      go_enter Tryd.func36, Tryd.ntmps36
      go_wp2
      go_ret
      exact ⟨rfl, B0⟩
set_option maxHeartbeats 1600000 in
theorem hasBk (a : Option Addr) (n cap : Nat) (x : Int) (w : World) (_hn : n ≤ 1048576) :
    Calls Tryd.prog 26 #[.slice a n cap, .int .i64 x] w fun e w' => e = .returned (.bool (decide (0 ≤ x) && decide (x < (n : Int)))) ∧ w' = w := by
  go_enter Tryd.func26, Tryd.ntmps26
  by_cases h1 : 0 ≤ x
  · by_cases h2 : x < (n : Int)
    · go_wp2
      go_ret
      exact ⟨by simp [h1, h2], rfl⟩
    · go_wp2
      go_ret
      exact ⟨by simp [h2], rfl⟩
  · go_wp2
    go_ret
    exact ⟨by simp; omega, rfl⟩
set_option maxRecDepth 100000 in
set_option maxHeartbeats 4000000 in
theorem nextI (a : Option Addr) (n cap : Nat) (bs : List BkR) (x : Int) (w : World) (ht : CR w a n bs) :
    Calls Tryd.prog 10 #[.agg #[.slice a n cap], .int .i64 x] w fun e w' => e = .returned (.int .i64 (nextD (bs.map BkR.D) x)) ∧ Below w.heap.size w w' := by
  have B0 : Below w.heap.size w (w.alloc (.cells #[.slice a n cap] 26)) := (Below.refl _ w).alloc (Nat.le_refl _) _
  have hn1 := ht.n
  by_cases hx : 0 ≤ x ∧ x < (n : Int)
  · obtain ⟨k, rfl⟩ : ∃ k : Nat, x = (k : Int) := ⟨x.toNat, by omega⟩
    have hkn : k < n := by omega
    have hki : (k : Int) < (n : Int) := by omega
    have hd : (decide (0 ≤ (k : Int)) && decide ((k : Int) < (n : Int))) = true := by simp [hki]
    obtain ⟨b, off, r, rfl, hlt, hrk, x3, hrp, htp⟩ := (ht.keep B0).some hkn
    obtain ⟨x0, x1, x2⟩ := x3
    have hcall := writtenI r.a r.ps.length r.cap r.ps _ rfl htp hrp
    have hnx := nextD_in hrk
    rw [hnx]
    obtain ⟨n1, hn1⟩ : ∃ n1, r.ps.length = n1 := ⟨_, rfl⟩
    rw [hn1] at x0 hcall
    have HB : Hid _ := B0
    have hh := hasBk (some ⟨b, off, none⟩) n cap (k : Int) (w.alloc (.cells #[.slice (some ⟨b, off, none⟩) n cap] 26)) (by omega)
    rw [hd] at hh
    clear hnx hrk hn1 ht B0 hrp hd
    go_enter Tryd.func10, Tryd.ntmps10
    go_wp2_with fail
    refine hh.mono ?_
    rintro e w1 ⟨rfl, hw⟩
    obtain rfl := hw.symm
    go_wp2_with fail
    refine hcall.mono ?_
    rintro e w1 ⟨rfl, hb1⟩
    clear hcall x0 x1 x2
    go_wp2
    go_ret
    exact ⟨rfl, HB.out.trans (hb1.mono HB.out.size)⟩
  · have hnx : nextD (bs.map BkR.D) x = -1 := nextD_out (by simpa [ht.len] using hx)
    rw [hnx]
    have hd : (decide (0 ≤ x) && decide (x < (n : Int))) = false := by
      by_cases h1 : 0 ≤ x
      · have : ¬ x < (n : Int) := by omega
        simp [this]
      · simp [h1]
    have hh := hasBk a n cap x (w.alloc (.cells #[.slice a n cap] 26)) (by omega)
    rw [hd] at hh
    clear hd hnx ht
    go_enter Tryd.func10, Tryd.ntmps10
    go_wp2_with fail
    refine hh.mono ?_
    rintro e w1 ⟨rfl, hw⟩
    obtain rfl := hw.symm
    go_wp2
    go_ret
    exact ⟨rfl, B0⟩
end
end Go.Proofs.YtcohppfocfepdaaDoor
