/-
  Joined: ChOpen, ToTab, EqCh.
-/
import Derived.Test.YtnhbhpbmnlojlaaGreatDoorJ05W
namespace Go.Proofs.YtnhbhpbmnlojlaaGreatDoor
section
open Go.ChangeShapes Go.WideShapes Go.ChangeAt Go.RowKit
section
variable {H : Type} {enc : TypeId × Value → H} {w : World} {base : Nat} {held : Bool}
theorem cells_row {a : Addr} {cs : List Value} {k : Nat} (h : w.cells? base a k = some cs) (_h1 : cs.length = k) : ∀ j, j < k → w.cell? (a.add j) = cs[j]? := by
  unfold World.cells? at h
  split at h
  · intro j hj
    have hm : ∀ (l : List Nat) (cs : List Value), l.mapM (fun i => w.cell? (a.add i)) = some cs → ∀ (i x : Nat), l[i]? = some x → w.cell? (a.add x) = cs[i]? := by
      intro l
      induction l with
      | nil => intro cs _ i x hx; simp at hx
      | cons y l ih =>
        intro cs hc i x hx
        simp only [List.mapM_cons, Option.bind_eq_bind, Option.pure_def, Option.bind_eq_some_iff, Option.some.injEq] at hc
        obtain ⟨v, hv, vs, hvs, rfl⟩ := hc
        cases i with
        | zero => simp at hx; subst hx; simpa using hv
        | succ i => simp at hx ⊢; exact ih vs hvs i x hx
    exact hm _ cs h j j (by simp [hj])
  · simp at h
theorem add_any (b o j : Nat) : (⟨b, o, none⟩ : Addr).add j = ⟨b, o + j, none⟩ := by
  unfold Addr.add
  split
  · rename_i h; rw [h]; rfl
  · simp
theorem list3 {α : Type} {l : List α} (h : l.length = 3) : ∃ a b c, l = [a, b, c] := by
  match l, h with
  | [a, b, c], _ => exact ⟨a, b, c, rfl⟩
theorem list1 {α : Type} {l : List α} (h : l.length = 1) : ∃ a, l = [a] := by
  match l, h with
  | [a], _ => exact ⟨a, rfl⟩
/-- A slice of elements that came in, opened. -/
theorem open_row {P : Program} {α : Type} [Inhabited α] (E : El α) (R rd : α → Prop) {t e : TypeId} {fuel : Nat} {cs : List Value} {x : DataW H × List MemPlace} (ht : P.underlying t = some (.slice e)) (hc : P.cellsOf e = E.k)
    (hel : ∀ n cs' y, DataW.trod enc P w base (fun _ => true) held n e cs' = some y → ∃ q, cs' = E.en q ∧ R q ∧ rd q)
    (h : DataW.trod enc P w base (fun _ => true) held fuel t cs = some x) :
    ∃ (a : Option Addr) (cap : Nat) (es : List α), cs = [.slice a es.length cap] ∧ es.length ≤ maxLen ∧ (∀ q ∈ es, R q) ∧ RdE E rd w a es := by
  rcases Deep.open_slice ht h with ⟨rfl, _⟩ | ⟨a, len, cap, m, n, D, Pl, rfl, _, hl, hm, hmm, _, hx⟩
  · exact ⟨none, 0, [], rfl, Nat.zero_le _, fun q hq => by simp at hq, .inl rfl⟩
  · simp only [if_true] at hmm
    subst hmm
    rw [hc] at hx
    obtain ⟨f, hf⟩ := Deep.choose_lt (α := α) (n := len) (p := fun i q => (∀ j, j < E.k → w.cell? ((a.add (i * E.k)).add j) = (E.en q)[j]?) ∧ R q ∧ rd q) (fun i hi => by
      obtain ⟨cs', h1, h2⟩ := hx i (by omega)
      obtain ⟨q, hq, hR⟩ := hel n cs' _ h2
      have := cells_row h1 (by rw [hq]; exact E.len q)
      rw [hq] at this
      exact ⟨q, this, hR⟩)
    refine ⟨some a, m, (List.range len).map f, by simp, by simp; omega, ?_, ?_⟩
    · intro q hq
      obtain ⟨i, hi, rfl⟩ := List.mem_map.1 hq
      exact (hf i (List.mem_range.1 hi)).2.1
    · by_cases h0 : len = 0
      · subst h0; exact .inl rfl
      · obtain ⟨b, off, spot⟩ := a
        have hc0 := (hf 0 (by omega)).1 0 E.pos
        have hspot : spot = none := by
          have hp := E.pos
          have hl := E.len (f 0)
          rw [List.getElem?_eq_getElem (by omega)] at hc0
          simpa [Addr.add] using World.cell?_spot hc0
        subst hspot
        refine .inr ⟨b, off, rfl, fun i r hi => ?_⟩
        obtain ⟨hi', hr'⟩ := List.getElem?_eq_some_iff.1 hi
        simp only [List.length_map, List.length_range] at hi'
        simp at hr'
        subst hr'
        obtain ⟨k0, _, hR⟩ := hf i hi'
        refine ⟨fun j hj => ?_, hR⟩
        have := k0 j hj
        rw [add_any, add_any] at this
        exact this
instance instPgR : Inhabited PgR := ⟨⟨false, none, 0, []⟩⟩
instance instBkR : Inhabited BkR := ⟨⟨none, 0, [], 0, false⟩⟩
set_option maxRecDepth 100000 in
set_option maxHeartbeats 1000000 in
theorem open_pages {fuel : Nat} {cs : List Value} {x : DataW H × List MemPlace} (h : DataW.trod enc Tryz.prog w base (fun _ => true) held fuel 164 cs = some x) :
    ∃ (a : Option Addr) (cap : Nat) (es : List PgR), cs = [.slice a es.length cap] ∧ es.length ≤ maxLen ∧ (∀ q ∈ es, PgIn q) ∧ RdPs w a es := by
  refine open_row pgE PgIn (fun p => Rd w p.a p.zs) Tryz.underlying164 (by kernel_rfl) ?_ h
  intro n cs' y hy
  obtain ⟨y0, y1, n', _, hcl, g0, g1⟩ := trod_struct2 Tryz.underlying205 hy
  have hc2 : Tryz.prog.cellsOf 205 = 2 := by kernel_rfl
  have k4 : Tryz.prog.cellsOf 4 = 1 := by kernel_rfl
  have k5 : Tryz.prog.cellsOf 30 = 1 := by kernel_rfl
  rw [hc2] at hcl
  obtain ⟨u0, u1, rfl⟩ := list2 hcl
  simp [k4, k5] at g0 g1
  obtain ⟨u, e0, _⟩ := DataW.trod_bool Tryz.underlying4 g0
  obtain ⟨a1, n1, c1, zs, e3, m1, l1, r1, b1⟩ : ∃ (a1 : Option Addr) (n1 c1 : Nat) (zs : List Int), [u1] = [.slice a1 n1 c1] ∧ n1 ≤ maxLen ∧ zs.length = n1 ∧ Rd w a1 zs ∧ Byt zs := by
    rcases open_ints Tryz.underlying30 Tryz.underlying5 (by kernel_rfl) g1 with ⟨hcs, _⟩ | ⟨x, l, c, zs, hcs, _, hl, hm, hz, _, hcell, hwz⟩
    · exact ⟨none, 0, 0, [], hcs, Nat.zero_le _, rfl, .inl rfl, fun z hz => by simp at hz⟩
    · obtain ⟨ys, hy, hr, hb⟩ := rd_of_row (w := w) (a := some x) (len := l) (cap := c) (zs := zs) (.inr ⟨x, rfl, hl, hm, by simpa using hz, hcell, hwz⟩)
      exact ⟨some x, l, c, ys, hcs, Nat.le_trans hl hm, hy, hr, hb⟩
  simp only [List.cons.injEq, and_true] at e0 e3
  subst e0 e3 l1
  exact ⟨⟨u, a1, c1, zs⟩, rfl, ⟨m1, b1⟩, r1⟩
set_option maxRecDepth 100000 in
set_option maxHeartbeats 1000000 in
theorem open_blocks {fuel : Nat} {cs : List Value} {x : DataW H × List MemPlace} (h : DataW.trod enc Tryz.prog w base (fun _ => true) held fuel 22 cs = some x) :
    ∃ (a : Option Addr) (cap : Nat) (es : List BkR), cs = [.slice a es.length cap] ∧ es.length ≤ maxLen ∧ (∀ q ∈ es, BkIn q) ∧ RdBs w a es := by
  refine open_row bkE BkIn (fun b => RdPs w b.a b.ps) Tryz.underlying22 (by kernel_rfl) ?_ h
  intro n cs' y hy
  obtain ⟨xs, n, _, _, hl, hlen, hfld⟩ := DataW.trod_struct Tryz.underlying166 hy
  have hC : Tryz.prog.cellsOf 166 = 3 := by kernel_rfl
  have k3 : Tryz.prog.cellsOf 3 = 1 := by kernel_rfl
  have k4 : Tryz.prog.cellsOf 4 = 1 := by kernel_rfl
  have kP : Tryz.prog.cellsOf 164 = 1 := by kernel_rfl
  rw [hC] at hl
  obtain ⟨v0, v1, v2, rfl⟩ := list3 hl
  obtain ⟨y0, y1, y2, rfl⟩ := list3 hlen
  have f0 := hfld 0 _ rfl
  have f1 := hfld 1 _ rfl
  have f2 := hfld 2 _ rfl
  simp [k3, k4, kP] at f0 f1 f2
  obtain ⟨a, cap, es, e0, hm, hI, hR⟩ := open_pages f0
  obtain ⟨wear, e1, _, w1⟩ := DataW.trod_int Tryz.underlying3 f1
  obtain ⟨bad, e2, _⟩ := DataW.trod_bool Tryz.underlying4 f2
  simp only [List.cons.injEq, and_true] at e0 e1 e2
  subst e0 e1 e2
  exact ⟨⟨a, cap, es, wear, bad⟩, rfl, ⟨w1, hm, hI⟩, hR⟩
set_option maxRecDepth 100000 in
theorem open_chip {base' : Nat} {v : Value} {d : DataW H} {p : List MemPlace} (hv : Value.okWide Tryz.prog w .any base' 24 v) (h : DataW.Trod enc Tryz.prog w base (fun _ => true) held 24 v d p) :
    ∃ (a : Option Addr) (cap : Nat) (bs : List BkR), v = .agg #[.slice a bs.length cap] ∧ bs.length ≤ maxLen ∧ (∀ r ∈ bs, BkIn r) ∧ RdBs w a bs := by
  obtain ⟨cs, rfl, hsz⟩ := okWide_struct Tryz.underlying24 hv
  obtain ⟨fuel, hf⟩ := h
  obtain ⟨xs, n, _, _, hl, hlen, hfld⟩ := DataW.trod_struct Tryz.underlying24 hf
  have hC : Tryz.prog.cellsOf 24 = 1 := by kernel_rfl
  have kB : Tryz.prog.cellsOf 22 = 1 := by kernel_rfl
  rw [hC] at hsz
  obtain ⟨l⟩ := cs
  simp only [List.size_toArray] at hsz
  obtain ⟨v0, rfl⟩ := list1 hsz
  obtain ⟨y0, rfl⟩ := list1 hlen
  have f0 := hfld 0 _ rfl
  simp [Value.cells, kB] at f0
  obtain ⟨a, cap, es, e0, hm, hI, hR⟩ := open_blocks f0
  simp only [List.cons.injEq, and_true] at e0
  subst e0
  exact ⟨a, cap, es, rfl, hm, hI, hR⟩
end
end

section
open Go.RowKit
theorem gr_more {w w1 : World} {g : Nat} (h : w.grownBy w1 (some g)) (j : Nat) (v : Value) : w.grownBy (w1.setCell ⟨g, j, none⟩ v) (some g) :=
  ⟨h.os, h.tape, h.output, by rw [size_setC]; exact h.size, fun m hm hk => (heap_setCell_other w1 ⟨g, j, none⟩ m v (fun e => hk (by simp [e]))).trans (h.block m hm hk)⟩
theorem set_mid {α : Type} (l : List α) (x z : α) (m : Nat) (h : 0 < m) : (l ++ List.replicate m z).set l.length x = (l ++ [x]) ++ List.replicate (m - 1) z := by
  obtain ⟨m, rfl⟩ : ∃ q, m = q + 1 := ⟨m - 1, by omega⟩
  rw [List.set_append_right _ _ (Nat.le_refl _), Nat.sub_self, List.replicate_succ, List.set_cons_zero]
  simp
end

section
open Go.RowKit
set_option maxHeartbeats 1600000 in
theorem eqPage_same (u : Bool) (a a' : Option Addr) (n cap cap' : Nat) (zs : List Int) (w : World) (hn : zs.length = n) (hs : n ≤ 4000000) (hr : Rd w a zs) (hr' : Rd w a' zs) :
    Calls Tryz.prog 178 #[.agg #[.bool u, .slice a n cap], .agg #[.bool u, .slice a' n cap']] w fun e w' => e = .returned (.bool true) ∧ Below w.heap.size w w' := by
  have B0 : Below w.heap.size w ((w.alloc (.cells #[.bool u, .slice a n cap] 94)).alloc (.cells #[.bool u, .slice a' n cap'] 94)) := ((Below.refl _ w).alloc (Nat.le_refl _) _).alloc (by simp) _
  have z0 := (Blk.new w 94 #[.bool u, .slice a n cap]).alloc (.cells #[.bool u, .slice a' n cap'] 94)
  have z1 := Blk.new (w.alloc (.cells #[.bool u, .slice a n cap] 94)) 94 #[.bool u, .slice a' n cap']
  simp only [World.size_alloc] at z1
  have hcall := eqByteS_true a a' n cap cap' zs _ hn hs (hr.keep B0) (hr'.keep B0)
  have hu : (u != u) = false := by simp
  obtain ⟨q0, q1⟩ : _ ∧ _ := ⟨z0.cell 0, z0.cell 1⟩
  obtain ⟨p0, p1⟩ : _ ∧ _ := ⟨z1.cell 0, z1.cell 1⟩
  simp at q0 q1 p0 p1
  have HB : Hid _ := B0
  clear hr hr' hn z0 z1 B0
  go_enter Tryz.func178, Tryz.ntmps178
  go_wp2_with fail
  refine hcall.mono ?_
  rintro e w1 ⟨rfl, hb1⟩
  clear q0 q1 p0 p1 hcall
  go_wp2
  go_ret
  exact ⟨rfl, HB.out.trans (hb1.mono HB.out.size)⟩
theorem same_at {α δ : Type} {f : α → δ} {ps qs : List α} (h : qs.map f = ps.map f) {k : Nat} {r : α} (hr : ps[k]? = some r) : ∃ t, qs[k]? = some t ∧ f t = f r := by
  have := congrArg (fun l => l[k]?) h
  simp only [List.getElem?_map, hr, Option.map_some] at this
  cases ht : qs[k]? with
  | none => rw [ht] at this; simp at this
  | some t => rw [ht] at this; simp at this; exact ⟨t, rfl, this⟩
set_option maxHeartbeats 3200000 in
theorem eqPageS_same (a a' : Option Addr) (n cap cap' : Nat) (ps qs : List PgR) (w : World) (hn : ps.length = n) (hD : qs.map PgR.D = ps.map PgR.D) (hs : totP (ps.map PgR.D) ≤ 4000000) (hr : RdPs w a ps) (hr' : RdPs w a' qs) :
    Calls Tryz.prog 166 #[.slice a n cap, .slice a' n cap'] w fun e w' => e = .returned (.bool true) ∧ Below w.heap.size w w' := by
  have hnt : qs.length = n := by have := congrArg List.length hD; simp at this; omega
  have hl := totP_len (ps.map PgR.D)
  have hnn : n ≤ 4000000 := by simp at hl; omega
  clear hl
  by_cases h0 : n = 0
  · subst h0
    go_enter Tryz.func166, Tryz.ntmps166
    go_wp2
    refine wp_loop_rounds 1 ?_; rw [rounds_succ]
    go_wp2
    go_ret
    exact ⟨rfl, Below.refl _ _⟩
  · obtain ⟨b, off, rfl, hlt, hc⟩ := hr.lt (by intro h; subst h; simp at hn; omega)
    obtain ⟨b', off', rfl, hlt', hc'⟩ := hr'.lt (by intro h; subst h; simp at hnt; omega)
    have hn' : Hid (ps.length = n) := hn
    have HC : Hid _ := hc
    have HC' : Hid _ := hc'
    have HS : Hid _ := hs
    have HD : Hid _ := hD
    clear hr hr' hn hc hc' hs hD hnt
    go_enter Tryz.func166, Tryz.ntmps166
    go_wp2
    go_loopw [5] (fun i wr => ∃ k : Nat, k ≤ n ∧ i = .int .i64 k ∧ Below w.heap.size w wr) (fun i _ => n - (intOf i).toNat)
    case atStart => exact ⟨0, Nat.zero_le _, rfl, Below.refl _ _⟩
    case round =>
      obtain ⟨k, hk, rfl, hB⟩ := hrel
      by_cases hkn : k < n
      · have hkl : k < ps.length := by rw [hn'.out]; exact hkn
        have hki : (k : Int) < (n : Int) := by omega
        obtain ⟨r, hrk⟩ : ∃ r, ps[k]? = some r := ⟨_, List.getElem?_eq_getElem hkl⟩
        obtain ⟨t, htk, hrt⟩ := same_at HD.out hrk
        obtain ⟨x6, xr⟩ := HC.out k r hrk
        obtain ⟨y6, yr⟩ := HC'.out k t htk
        unfold PgR.D at hrt
        simp only [PgD.mk.injEq] at hrt
        obtain ⟨e1, e2⟩ := hrt
        have htot := totP_at hrk
        have hs := HS.out
        rw [e2] at yr
        have hcd := eqPage_same r.used r.a t.a r.zs.length r.cap t.cap r.zs wr.drew rfl (by omega) (Rd.keep xr hB.drew) (Rd.keep yr hB.drew)
        obtain ⟨x0, x1⟩ := x6.keep hB hlt
        obtain ⟨y0, y1⟩ := y6.keep hB hlt'
        rw [e1] at y0
        rw [e2] at y1
        have hwz := hB.size
        obtain ⟨n1, hn1⟩ : ∃ n, r.zs.length = n := ⟨_, rfl⟩
        rw [hn1] at x1 hcd y1
        clear x6 y6 xr yr hn1 hrk htk e1 e2 hkl htot hs
        go_wp2
        go_region_with ((go_at_call 178; (with_reducible refine hcd.mono ?_); rintro e w1 ⟨rfl, hb1⟩))
        all_goals go_wp2
        all_goals go_roundw
        all_goals first
          | (case rel => exact ⟨k + 1, by omega, by go_num, hB.drew.trans (hb1.mono hwz)⟩)
          | (case measure => simp [intOf]; omega)
      · have hki : ¬ (k : Int) < (n : Int) := by omega
        go_wp2
        go_ret
        exact ⟨rfl, hB⟩
set_option maxHeartbeats 1600000 in
theorem eqBlock_same (a a' : Option Addr) (n cap cap' : Nat) (wear : Int) (bad : Bool) (ps qs : List PgR) (w : World) (hn : ps.length = n) (hD : qs.map PgR.D = ps.map PgR.D) (hs : totP (ps.map PgR.D) ≤ 4000000) (hr : RdPs w a ps) (hr' : RdPs w a' qs) :
    Calls Tryz.prog 146 #[.agg #[.slice a n cap, .int .i64 wear, .bool bad], .agg #[.slice a' n cap', .int .i64 wear, .bool bad]] w fun e w' => e = .returned (.bool true) ∧ Below w.heap.size w w' := by
  have B0 : Below w.heap.size w ((w.alloc (.cells #[.slice a n cap, .int .i64 wear, .bool bad] 82)).alloc (.cells #[.slice a' n cap', .int .i64 wear, .bool bad] 82)) := ((Below.refl _ w).alloc (Nat.le_refl _) _).alloc (by simp) _
  have z0 := (Blk.new w 82 #[.slice a n cap, .int .i64 wear, .bool bad]).alloc (.cells #[.slice a' n cap', .int .i64 wear, .bool bad] 82)
  have z1 := Blk.new (w.alloc (.cells #[.slice a n cap, .int .i64 wear, .bool bad] 82)) 82 #[.slice a' n cap', .int .i64 wear, .bool bad]
  simp only [World.size_alloc] at z1
  have hcall := eqPageS_same a a' n cap cap' ps qs _ hn hD hs (hr.keep B0) (hr'.keep B0)
  have hu : (bad != bad) = false := by simp
  have hv : (wear != wear) = false := by simp
  have HB : Hid _ := B0
  clear hr hr' hn B0 hD hs
  go_enter Tryz.func146, Tryz.ntmps146
  go_wp2_with fail
  refine hcall.mono ?_
  rintro e w1 ⟨rfl, hb1⟩
  have k0 := z0.keep hb1
  have k1 := z1.keep hb1
  obtain ⟨q1, q2⟩ : _ ∧ _ := ⟨k0.cell 1, k0.cell 2⟩
  obtain ⟨p1, p2⟩ : _ ∧ _ := ⟨k1.cell 1, k1.cell 2⟩
  simp at q1 q2 p1 p2
  clear z0 z1 k0 k1 hcall
  go_wp2
  go_ret
  exact ⟨rfl, HB.out.trans (hb1.mono HB.out.size)⟩
set_option maxHeartbeats 3200000 in
theorem eqBlockS_same (a a' : Option Addr) (n cap cap' : Nat) (ps qs : List BkR) (w : World) (hn : ps.length = n) (hD : qs.map BkR.D = ps.map BkR.D) (hs : totB (ps.map BkR.D) ≤ 4000000) (hr : RdBs w a ps) (hr' : RdBs w a' qs) :
    Calls Tryz.prog 118 #[.slice a n cap, .slice a' n cap'] w fun e w' => e = .returned (.bool true) ∧ Below w.heap.size w w' := by
  have hnt : qs.length = n := by have := congrArg List.length hD; simp at this; omega
  have hl := totB_len (ps.map BkR.D)
  have hnn : n ≤ 4000000 := by simp at hl; omega
  clear hl
  by_cases h0 : n = 0
  · subst h0
    go_enter Tryz.func118, Tryz.ntmps118
    go_wp2
    refine wp_loop_rounds 1 ?_; rw [rounds_succ]
    go_wp2
    go_ret
    exact ⟨rfl, Below.refl _ _⟩
  · obtain ⟨b, off, rfl, hlt, hc⟩ := hr.lt (by intro h; subst h; simp at hn; omega)
    obtain ⟨b', off', rfl, hlt', hc'⟩ := hr'.lt (by intro h; subst h; simp at hnt; omega)
    have hn' : Hid (ps.length = n) := hn
    have HC : Hid _ := hc
    have HC' : Hid _ := hc'
    have HS : Hid _ := hs
    have HD : Hid _ := hD
    clear hr hr' hn hc hc' hs hD hnt
    go_enter Tryz.func118, Tryz.ntmps118
    go_wp2
    go_loopw [5] (fun i wr => ∃ k : Nat, k ≤ n ∧ i = .int .i64 k ∧ Below w.heap.size w wr) (fun i _ => n - (intOf i).toNat)
    case atStart => exact ⟨0, Nat.zero_le _, rfl, Below.refl _ _⟩
    case round =>
      obtain ⟨k, hk, rfl, hB⟩ := hrel
      by_cases hkn : k < n
      · have hkl : k < ps.length := by rw [hn'.out]; exact hkn
        have hki : (k : Int) < (n : Int) := by omega
        obtain ⟨r, hrk⟩ : ∃ r, ps[k]? = some r := ⟨_, List.getElem?_eq_getElem hkl⟩
        obtain ⟨t, htk, hrt⟩ := same_at HD.out hrk
        obtain ⟨x6, xr⟩ := HC.out k r hrk
        obtain ⟨y6, yr⟩ := HC'.out k t htk
        unfold BkR.D at hrt
        simp only [BkD.mk.injEq] at hrt
        obtain ⟨e1, e2, e3⟩ := hrt
        have htot := totB_at hrk
        have hs := HS.out
        have hln : t.ps.length = r.ps.length := by have := congrArg List.length e1; simpa using this
        have hcd := eqBlock_same r.a t.a r.ps.length r.cap t.cap r.wear r.bad r.ps t.ps wr.drew rfl e1 (by omega) (RdPs.keep xr hB.drew) (RdPs.keep yr hB.drew)
        obtain ⟨x0, x1, x2⟩ := x6.keep hB hlt
        obtain ⟨y0, y1, y2⟩ := y6.keep hB hlt'
        rw [e2] at y1
        rw [e3] at y2
        rw [hln] at y0
        have hwz := hB.size
        obtain ⟨n1, hn1⟩ : ∃ n, r.ps.length = n := ⟨_, rfl⟩
        rw [hn1] at x0 hcd y0
        clear x6 y6 xr yr hn1 hrk htk e1 e2 e3 hkl htot hs hln
        go_wp2
        go_region_with ((go_at_call 146; (with_reducible refine hcd.mono ?_); rintro e w1 ⟨rfl, hb1⟩))
        all_goals go_wp2
        all_goals go_roundw
        all_goals first
          | (case rel => exact ⟨k + 1, by omega, by go_num, hB.drew.trans (hb1.mono hwz)⟩)
          | (case measure => simp [intOf]; omega)
      · have hki : ¬ (k : Int) < (n : Int) := by omega
        go_wp2
        go_ret
        exact ⟨rfl, hB⟩
set_option maxHeartbeats 1600000 in
theorem eqChip_same (a a' : Option Addr) (n cap cap' : Nat) (ps qs : List BkR) (w : World) (hn : ps.length = n) (hD : qs.map BkR.D = ps.map BkR.D) (hs : totB (ps.map BkR.D) ≤ 4000000) (hr : RdBs w a ps) (hr' : RdBs w a' qs) :
    Calls Tryz.prog 79 #[.agg #[.slice a n cap], .agg #[.slice a' n cap']] w fun e w' => e = .returned (.bool true) ∧ Below w.heap.size w w' := by
  have B0 : Below w.heap.size w ((w.alloc (.cells #[.slice a n cap] 34)).alloc (.cells #[.slice a' n cap'] 34)) := ((Below.refl _ w).alloc (Nat.le_refl _) _).alloc (by simp) _
  have hcall := eqBlockS_same a a' n cap cap' ps qs _ hn hD hs (hr.keep B0) (hr'.keep B0)
  have HB : Hid _ := B0
  clear hr hr' hn B0 hD hs
  go_enter Tryz.func79, Tryz.ntmps79
  go_wp2_with fail
  refine hcall.mono ?_
  rintro e w1 ⟨rfl, hb1⟩
  clear hcall
  go_wp2
  go_ret
  exact ⟨rfl, HB.out.trans (hb1.mono HB.out.size)⟩
end
end Go.Proofs.YtnhbhpbmnlojlaaGreatDoor
