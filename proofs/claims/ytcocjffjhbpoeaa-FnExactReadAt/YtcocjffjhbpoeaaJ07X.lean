/-
  Joined: ChM, ChOpen.
-/
import Derived.Test.YtcocjffjhbpoeaaJ06X
namespace Go.Proofs.Ytcocjffjhbpoeaa
section
open Go.RowKit
/-- What a page says. -/
structure PgD where
  used : Bool
  zs : List Int
/-- What a block says. -/
structure BkD where
  ps : List PgD
  wear : Int
  bad : Bool
structure PgR where
  used : Bool
  a : Option Addr
  cap : Nat
  zs : List Int
def PgR.D (p : PgR) : PgD := ⟨p.used, p.zs⟩
def PgR.v (p : PgR) : Value := .slice p.a p.zs.length p.cap
def pgE : El PgR := ⟨2, by omega, fun p => [.bool p.used, .slice p.a p.zs.length p.cap], fun _ => rfl⟩
def RdPs (w : World) (a : Option Addr) (ps : List PgR) : Prop := RdE pgE (fun p => Rd w p.a p.zs) w a ps
structure BkR where
  a : Option Addr
  cap : Nat
  ps : List PgR
  wear : Int
  bad : Bool
def BkR.D (b : BkR) : BkD := ⟨b.ps.map PgR.D, b.wear, b.bad⟩
def BkR.v (b : BkR) : Value := .slice b.a b.ps.length b.cap
def bkE : El BkR := ⟨3, by omega, fun b => [.slice b.a b.ps.length b.cap, .int .i64 b.wear, .bool b.bad], fun _ => rfl⟩
def RdBs (w : World) (a : Option Addr) (bs : List BkR) : Prop := RdE bkE (fun b => RdPs w b.a b.ps) w a bs
theorem RdPs.keep {w w' : World} {a : Option Addr} {ps : List PgR} (h : RdPs w a ps) (hb : Below w.heap.size w w') : RdPs w' a ps := RdE.mono h hb fun _ _ hr => Rd.keep hr hb
theorem RdBs.keep {w w' : World} {a : Option Addr} {bs : List BkR} (h : RdBs w a bs) (hb : Below w.heap.size w w') : RdBs w' a bs := RdE.mono h hb fun _ _ hr => RdPs.keep hr hb
/-- The cells of a page. -/
structure TwoP (w : World) (b off : Nat) (p : PgR) : Prop where
  c0 : w.cell? ⟨b, off, none⟩ = some (.bool p.used)
  c1 : w.cell? ⟨b, off + 1, none⟩ = some (.slice p.a p.zs.length p.cap)
theorem TwoP.keep {w w' : World} {b off B : Nat} {p : PgR} (h : TwoP w b off p) (hb : Below B w w') (hlt : b < B) : TwoP w' b off p := ⟨(hb.cell hlt).trans h.c0, (hb.cell hlt).trans h.c1⟩
/-- The cells of a block. -/
structure ThreeB (w : World) (b off : Nat) (r : BkR) : Prop where
  c0 : w.cell? ⟨b, off, none⟩ = some (.slice r.a r.ps.length r.cap)
  c1 : w.cell? ⟨b, off + 1, none⟩ = some (.int .i64 r.wear)
  c2 : w.cell? ⟨b, off + 2, none⟩ = some (.bool r.bad)
theorem ThreeB.keep {w w' : World} {b off B : Nat} {r : BkR} (h : ThreeB w b off r) (hb : Below B w w') (hlt : b < B) : ThreeB w' b off r := ⟨(hb.cell hlt).trans h.c0, (hb.cell hlt).trans h.c1, (hb.cell hlt).trans h.c2⟩
theorem RdPs.lt {w : World} {a : Option Addr} {ps : List PgR} (h : RdPs w a ps) (hz : ps ≠ []) : ∃ b off, a = some ⟨b, off, none⟩ ∧ b < w.heap.size ∧ ∀ i p, ps[i]? = some p → TwoP w b (off + i * 2) p ∧ Rd w p.a p.zs := by
  obtain ⟨b, off, h1, h2, h3⟩ := RdE.lt h hz
  exact ⟨b, off, h1, h2, fun i p hi => ⟨⟨(h3 i p hi).1 0 (by decide), (h3 i p hi).1 1 (by decide)⟩, (h3 i p hi).2⟩⟩
theorem RdBs.lt {w : World} {a : Option Addr} {bs : List BkR} (h : RdBs w a bs) (hz : bs ≠ []) : ∃ b off, a = some ⟨b, off, none⟩ ∧ b < w.heap.size ∧ ∀ i r, bs[i]? = some r → ThreeB w b (off + i * 3) r ∧ RdPs w r.a r.ps := by
  obtain ⟨b, off, h1, h2, h3⟩ := RdE.lt h hz
  exact ⟨b, off, h1, h2, fun i p hi => ⟨⟨(h3 i p hi).1 0 (by decide), (h3 i p hi).1 1 (by decide), (h3 i p hi).1 2 (by decide)⟩, (h3 i p hi).2⟩⟩
/-- How much there is: pages and bytes of a list of pages; of blocks with all of theirs. -/
def totP (ps : List PgD) : Nat := (ps.map fun p => 1 + p.zs.length).sum
def totB (bs : List BkD) : Nat := (bs.map fun b => 1 + totP b.ps).sum
theorem totP_cons (p : PgD) (ps : List PgD) : totP (p :: ps) = 1 + p.zs.length + totP ps := by simp [totP]
theorem totB_cons (b : BkD) (bs : List BkD) : totB (b :: bs) = 1 + totP b.ps + totB bs := by simp [totB]
theorem totP_append (ps qs : List PgD) : totP (ps ++ qs) = totP ps + totP qs := by simp [totP]
theorem totP_mem {p : PgD} {ps : List PgD} (h : p ∈ ps) : 1 + p.zs.length ≤ totP ps := by
  induction ps with
  | nil => simp at h
  | cons q ps ih =>
    rw [totP_cons]
    rcases List.mem_cons.1 h with rfl | h
    · omega
    · have := ih h; omega
theorem totB_mem {b : BkD} {bs : List BkD} (h : b ∈ bs) : 1 + totP b.ps ≤ totB bs := by
  induction bs with
  | nil => simp at h
  | cons q bs ih =>
    rw [totB_cons]
    rcases List.mem_cons.1 h with rfl | h
    · omega
    · have := ih h; omega
theorem totP_len (ps : List PgD) : ps.length ≤ totP ps := by
  induction ps with
  | nil => simp [totP]
  | cons q ps ih => rw [totP_cons]; simp only [List.length_cons]; omega
theorem totB_len (bs : List BkD) : bs.length ≤ totB bs := by
  induction bs with
  | nil => simp [totB]
  | cons q ps ih => rw [totB_cons]; simp only [List.length_cons]; omega
theorem totB_at {bs : List BkR} {i : Nat} {b : BkR} (h : bs[i]? = some b) : 1 + totP (b.ps.map PgR.D) ≤ totB (bs.map BkR.D) := totB_mem (b := b.D) (List.mem_map_of_mem (List.mem_of_getElem? h))
theorem totP_at {ps : List PgR} {i : Nat} {p : PgR} (h : ps[i]? = some p) : 1 + p.zs.length ≤ totP (ps.map PgR.D) := totP_mem (p := p.D) (List.mem_map_of_mem (List.mem_of_getElem? h))
/-- What is known of a page, a block that came in. -/
structure PgIn (p : PgR) : Prop where
  len : p.zs.length ≤ maxLen
  byt : Byt p.zs
structure BkIn (b : BkR) : Prop where
  wear : (Lit.int .i64 b.wear).wf = true
  len : b.ps.length ≤ maxLen
  ps : ∀ p ∈ b.ps, PgIn p
/-- The bytes of a page, of the call's own (or nil). -/
def PgR.own (w : World) (p : PgR) : Prop := RowB w p.v p.zs.length p.zs ∧ p.zs.length ≤ p.cap
/-- The pages of a block, of the call's own, with all of theirs. -/
def OwnPs (w : World) (v : Value) (ps : List PgR) : Prop := OwnE pgE 90 w v ps.length ps ∧ ∀ p ∈ ps, p.own w
def OwnBs (w : World) (v : Value) (bs : List BkR) : Prop := OwnE bkE 63 w v bs.length bs ∧ ∀ b ∈ bs, OwnPs w b.v b.ps
/-- The blocks of memory that it takes. -/
def fpPs (v : Value) (ps : List PgR) : List Nat := v.ownBlock.toList ++ ps.flatMap fun p => p.v.ownBlock.toList
def fpBs (v : Value) (bs : List BkR) : List Nat := v.ownBlock.toList ++ bs.flatMap fun b => fpPs b.v b.ps
theorem fpPs_row {v : Value} {ps : List PgR} {g : Nat} (h : v.ownBlock = some g) : g ∈ fpPs v ps := by simp [fpPs, h]
theorem fpPs_pg {v : Value} {ps : List PgR} {p : PgR} {g : Nat} (hp : p ∈ ps) (h : p.v.ownBlock = some g) : g ∈ fpPs v ps := List.mem_append_right _ (List.mem_flatMap.2 ⟨p, hp, by simp [h]⟩)
theorem fpBs_row {v : Value} {bs : List BkR} {g : Nat} (h : v.ownBlock = some g) : g ∈ fpBs v bs := by simp [fpBs, h]
theorem fpBs_bk {v : Value} {bs : List BkR} {b : BkR} {g : Nat} (hp : b ∈ bs) (h : g ∈ fpPs b.v b.ps) : g ∈ fpBs v bs := List.mem_append_right _ (List.mem_flatMap.2 ⟨b, hp, h⟩)
theorem PgR.own.lt {w : World} {p : PgR} {g : Nat} (h : p.own w) (hg : p.v.ownBlock = some g) : g < w.heap.size := (RowB.at_ h.1 hg).1
theorem PgR.own.block {w w' : World} {p : PgR} (h : p.own w) (hb : ∀ g, p.v.ownBlock = some g → w'.heap[g]? = w.heap[g]?) : p.own w' := ⟨RowB.block h.1 hb, h.2⟩
theorem OwnPs.block {w w' : World} {v : Value} {ps : List PgR} (h : OwnPs w v ps) (hb : ∀ g, g ∈ fpPs v ps → w'.heap[g]? = w.heap[g]?) : OwnPs w' v ps :=
  ⟨h.1.block fun g hg => hb g (fpPs_row hg), fun p hp => (h.2 p hp).block fun g hg => hb g (fpPs_pg hp hg)⟩
theorem OwnBs.block {w w' : World} {v : Value} {bs : List BkR} (h : OwnBs w v bs) (hb : ∀ g, g ∈ fpBs v bs → w'.heap[g]? = w.heap[g]?) : OwnBs w' v bs :=
  ⟨h.1.block fun g hg => hb g (fpBs_row hg), fun b hp => (h.2 b hp).block fun g hg => hb g (fpBs_bk hp hg)⟩
theorem OwnPs.lt {w : World} {v : Value} {ps : List PgR} (h : OwnPs w v ps) : ∀ g ∈ fpPs v ps, g < w.heap.size := fun g hg => by
  rcases List.mem_append.1 hg with h1 | h1
  · exact h.1.lt (by simpa using h1)
  · obtain ⟨p, hp, h2⟩ := List.mem_flatMap.1 h1
    exact (h.2 p hp).lt (by simpa using h2)
theorem OwnBs.lt {w : World} {v : Value} {bs : List BkR} (h : OwnBs w v bs) : ∀ g ∈ fpBs v bs, g < w.heap.size := fun g hg => by
  rcases List.mem_append.1 hg with h1 | h1
  · exact h.1.lt (by simpa using h1)
  · obtain ⟨b, hp, h2⟩ := List.mem_flatMap.1 h1
    exact (h.2 b hp).lt g h2
theorem OwnPs.keep {w w' : World} {v : Value} {ps : List PgR} (h : OwnPs w v ps) (hb : Below w.heap.size w w') : OwnPs w' v ps := h.block fun g hg => hb.block g (h.lt g hg)
theorem OwnBs.keep {w w' : World} {v : Value} {bs : List BkR} (h : OwnBs w v bs) (hb : Below w.heap.size w w') : OwnBs w' v bs := h.block fun g hg => hb.block g (h.lt g hg)
theorem OwnPs.svs {w w' : World} {v : Value} {ps : List PgR} {F : List Nat} (h : OwnPs w v ps) (k : Sv F w w') (hd : ∀ g ∈ fpPs v ps, g ∉ F) : OwnPs w' v ps := h.block fun g hg => k.block g (h.lt g hg) (hd g hg)
theorem OwnBs.svs {w w' : World} {v : Value} {bs : List BkR} {F : List Nat} (h : OwnBs w v bs) (k : Sv F w w') (hd : ∀ g ∈ fpBs v bs, g ∉ F) : OwnBs w' v bs := h.block fun g hg => k.block g (h.lt g hg) (hd g hg)
theorem PgR.own.rd {w : World} {p : PgR} (h : p.own w) : Rd w p.a p.zs := by
  obtain ⟨a, c, e, r⟩ := RowB.form h.1
  unfold PgR.v at e
  simp only [Value.slice.injEq] at e
  rw [e.1]; exact r
theorem OwnPs.rd {w : World} {a : Option Addr} {c n : Nat} {ps : List PgR} (h : OwnPs w (.slice a n c) ps) : RdPs w a ps := by
  obtain ⟨a', c', e, r⟩ := OwnE.rd (rd := fun p => Rd w p.a p.zs) h.1 (fun p hp => (h.2 p hp).rd)
  simp only [Value.slice.injEq] at e
  rw [e.1]; exact r
theorem OwnBs.rd {w : World} {a : Option Addr} {c n : Nat} {bs : List BkR} (h : OwnBs w (.slice a n c) bs) : RdBs w a bs := by
  obtain ⟨a', c', e, r⟩ := OwnE.rd (rd := fun b => RdPs w b.a b.ps) h.1 (fun p hp => (h.2 p hp).rd)
  simp only [Value.slice.injEq] at e
  rw [e.1]; exact r
end

section
open Go.ChangeShapes Go.WideShapes Go.ChangeAt Go.RowKit
section
variable {H : Type} {enc : TypeId × Value → H} {w : World} {base : Nat} {held : Bool}
theorem cells_row {a : Addr} {cs : List Value} {k : Nat} (h : w.cells? base a k = some cs) (_h1 : cs.length = k) : ∀ j, j < k → w.cell? (a.add j) = cs[j]? := by
  unfold World.cells? at h
  split at h
  · intro j hj
    have hm : ∀ (l : List Nat) (cs : List Value), l.mapM (fun i => w.cell? (a.add i)) = some cs → ∀ (i x : Nat), l[i]? = some x → w.cell? (a.add x) = cs[i]? := by
      intro l
      induction l with
      | nil => intro cs _ i x hx; simp at hx
      | cons y l ih =>
        intro cs hc i x hx
        simp only [List.mapM_cons, Option.bind_eq_bind, Option.pure_def, Option.bind_eq_some_iff, Option.some.injEq] at hc
        obtain ⟨v, hv, vs, hvs, rfl⟩ := hc
        cases i with
        | zero => simp at hx; subst hx; simpa using hv
        | succ i => simp at hx ⊢; exact ih vs hvs i x hx
    exact hm _ cs h j j (by simp [hj])
  · simp at h
theorem add_any (b o j : Nat) : (⟨b, o, none⟩ : Addr).add j = ⟨b, o + j, none⟩ := by
  unfold Addr.add
  split
  · rename_i h; rw [h]; rfl
  · simp
theorem list3 {α : Type} {l : List α} (h : l.length = 3) : ∃ a b c, l = [a, b, c] := by
  match l, h with
  | [a, b, c], _ => exact ⟨a, b, c, rfl⟩
theorem list1 {α : Type} {l : List α} (h : l.length = 1) : ∃ a, l = [a] := by
  match l, h with
  | [a], _ => exact ⟨a, rfl⟩
/-- A slice of elements that came in, opened. -/
theorem open_row {P : Program} {α : Type} [Inhabited α] (E : El α) (R rd : α → Prop) {t e : TypeId} {fuel : Nat} {cs : List Value} {x : DataW H × List MemPlace} (ht : P.underlying t = some (.slice e)) (hc : P.cellsOf e = E.k)
    (hel : ∀ n cs' y, DataW.trod enc P w base (fun _ => true) held n e cs' = some y → ∃ q, cs' = E.en q ∧ R q ∧ rd q)
    (h : DataW.trod enc P w base (fun _ => true) held fuel t cs = some x) :
    ∃ (a : Option Addr) (cap : Nat) (es : List α), cs = [.slice a es.length cap] ∧ es.length ≤ maxLen ∧ (∀ q ∈ es, R q) ∧ RdE E rd w a es := by
  rcases Deep.open_slice ht h with ⟨rfl, _⟩ | ⟨a, len, cap, m, n, D, Pl, rfl, _, hl, hm, hmm, _, hx⟩
  · exact ⟨none, 0, [], rfl, Nat.zero_le _, fun q hq => by simp at hq, .inl rfl⟩
  · simp only [if_true] at hmm
    subst hmm
    rw [hc] at hx
    obtain ⟨f, hf⟩ := Deep.choose_lt (α := α) (n := len) (p := fun i q => (∀ j, j < E.k → w.cell? ((a.add (i * E.k)).add j) = (E.en q)[j]?) ∧ R q ∧ rd q) (fun i hi => by
      obtain ⟨cs', h1, h2⟩ := hx i (by omega)
      obtain ⟨q, hq, hR⟩ := hel n cs' _ h2
      have := cells_row h1 (by rw [hq]; exact E.len q)
      rw [hq] at this
      exact ⟨q, this, hR⟩)
    refine ⟨some a, m, (List.range len).map f, by simp, by simp; omega, ?_, ?_⟩
    · intro q hq
      obtain ⟨i, hi, rfl⟩ := List.mem_map.1 hq
      exact (hf i (List.mem_range.1 hi)).2.1
    · by_cases h0 : len = 0
      · subst h0; exact .inl rfl
      · obtain ⟨b, off, spot⟩ := a
        have hc0 := (hf 0 (by omega)).1 0 E.pos
        have hspot : spot = none := by
          have hp := E.pos
          have hl := E.len (f 0)
          rw [List.getElem?_eq_getElem (by omega)] at hc0
          simpa [Addr.add] using World.cell?_spot hc0
        subst hspot
        refine .inr ⟨b, off, rfl, fun i r hi => ?_⟩
        obtain ⟨hi', hr'⟩ := List.getElem?_eq_some_iff.1 hi
        simp only [List.length_map, List.length_range] at hi'
        simp at hr'
        subst hr'
        obtain ⟨k0, _, hR⟩ := hf i hi'
        refine ⟨fun j hj => ?_, hR⟩
        have := k0 j hj
        rw [add_any, add_any] at this
        exact this
instance instPgR : Inhabited PgR := ⟨⟨false, none, 0, []⟩⟩
instance instBkR : Inhabited BkR := ⟨⟨none, 0, [], 0, false⟩⟩
set_option maxRecDepth 100000 in
set_option maxHeartbeats 1000000 in
theorem open_pages {fuel : Nat} {cs : List Value} {x : DataW H × List MemPlace} (h : DataW.trod enc Try.prog w base (fun _ => true) held fuel 146 cs = some x) :
    ∃ (a : Option Addr) (cap : Nat) (es : List PgR), cs = [.slice a es.length cap] ∧ es.length ≤ maxLen ∧ (∀ q ∈ es, PgIn q) ∧ RdPs w a es := by
  refine open_row pgE PgIn (fun p => Rd w p.a p.zs) Try.underlying146 (by kernel_rfl) ?_ h
  intro n cs' y hy
  obtain ⟨y0, y1, n', _, hcl, g0, g1⟩ := trod_struct2 Try.underlying172 hy
  have hc2 : Try.prog.cellsOf 172 = 2 := by kernel_rfl
  have k4 : Try.prog.cellsOf 4 = 1 := by kernel_rfl
  have k5 : Try.prog.cellsOf 45 = 1 := by kernel_rfl
  rw [hc2] at hcl
  obtain ⟨u0, u1, rfl⟩ := list2 hcl
  simp [k4, k5] at g0 g1
  obtain ⟨u, e0, _⟩ := DataW.trod_bool Try.underlying4 g0
  obtain ⟨a1, n1, c1, zs, e3, m1, l1, r1, b1⟩ : ∃ (a1 : Option Addr) (n1 c1 : Nat) (zs : List Int), [u1] = [.slice a1 n1 c1] ∧ n1 ≤ maxLen ∧ zs.length = n1 ∧ Rd w a1 zs ∧ Byt zs := by
    rcases open_ints Try.underlying45 Try.underlying5 (by kernel_rfl) g1 with ⟨hcs, _⟩ | ⟨x, l, c, zs, hcs, _, hl, hm, hz, _, hcell, hwz⟩
    · exact ⟨none, 0, 0, [], hcs, Nat.zero_le _, rfl, .inl rfl, fun z hz => by simp at hz⟩
    · obtain ⟨ys, hy, hr, hb⟩ := rd_of_row (w := w) (a := some x) (len := l) (cap := c) (zs := zs) (.inr ⟨x, rfl, hl, hm, by simpa using hz, hcell, hwz⟩)
      exact ⟨some x, l, c, ys, hcs, Nat.le_trans hl hm, hy, hr, hb⟩
  simp only [List.cons.injEq, and_true] at e0 e3
  subst e0 e3 l1
  exact ⟨⟨u, a1, c1, zs⟩, rfl, ⟨m1, b1⟩, r1⟩
set_option maxRecDepth 100000 in
set_option maxHeartbeats 1000000 in
theorem open_blocks {fuel : Nat} {cs : List Value} {x : DataW H × List MemPlace} (h : DataW.trod enc Try.prog w base (fun _ => true) held fuel 22 cs = some x) :
    ∃ (a : Option Addr) (cap : Nat) (es : List BkR), cs = [.slice a es.length cap] ∧ es.length ≤ maxLen ∧ (∀ q ∈ es, BkIn q) ∧ RdBs w a es := by
  refine open_row bkE BkIn (fun b => RdPs w b.a b.ps) Try.underlying22 (by kernel_rfl) ?_ h
  intro n cs' y hy
  obtain ⟨xs, n, _, _, hl, hlen, hfld⟩ := DataW.trod_struct Try.underlying148 hy
  have hC : Try.prog.cellsOf 148 = 3 := by kernel_rfl
  have k3 : Try.prog.cellsOf 3 = 1 := by kernel_rfl
  have k4 : Try.prog.cellsOf 4 = 1 := by kernel_rfl
  have kP : Try.prog.cellsOf 146 = 1 := by kernel_rfl
  rw [hC] at hl
  obtain ⟨v0, v1, v2, rfl⟩ := list3 hl
  obtain ⟨y0, y1, y2, rfl⟩ := list3 hlen
  have f0 := hfld 0 _ rfl
  have f1 := hfld 1 _ rfl
  have f2 := hfld 2 _ rfl
  simp [k3, k4, kP] at f0 f1 f2
  obtain ⟨a, cap, es, e0, hm, hI, hR⟩ := open_pages f0
  obtain ⟨wear, e1, _, w1⟩ := DataW.trod_int Try.underlying3 f1
  obtain ⟨bad, e2, _⟩ := DataW.trod_bool Try.underlying4 f2
  simp only [List.cons.injEq, and_true] at e0 e1 e2
  subst e0 e1 e2
  exact ⟨⟨a, cap, es, wear, bad⟩, rfl, ⟨w1, hm, hI⟩, hR⟩
set_option maxRecDepth 100000 in
theorem open_chip {base' : Nat} {v : Value} {d : DataW H} {p : List MemPlace} (hv : Value.okWide Try.prog w .any base' 24 v) (h : DataW.Trod enc Try.prog w base (fun _ => true) held 24 v d p) :
    ∃ (a : Option Addr) (cap : Nat) (bs : List BkR), v = .agg #[.slice a bs.length cap] ∧ bs.length ≤ maxLen ∧ (∀ r ∈ bs, BkIn r) ∧ RdBs w a bs := by
  obtain ⟨cs, rfl, hsz⟩ := okWide_struct Try.underlying24 hv
  obtain ⟨fuel, hf⟩ := h
  obtain ⟨xs, n, _, _, hl, hlen, hfld⟩ := DataW.trod_struct Try.underlying24 hf
  have hC : Try.prog.cellsOf 24 = 1 := by kernel_rfl
  have kB : Try.prog.cellsOf 22 = 1 := by kernel_rfl
  rw [hC] at hsz
  obtain ⟨l⟩ := cs
  simp only [List.size_toArray] at hsz
  obtain ⟨v0, rfl⟩ := list1 hsz
  obtain ⟨y0, rfl⟩ := list1 hlen
  have f0 := hfld 0 _ rfl
  simp [Value.cells, kB] at f0
  obtain ⟨a, cap, es, e0, hm, hI, hR⟩ := open_blocks f0
  simp only [List.cons.injEq, and_true] at e0
  subst e0
  exact ⟨a, cap, es, rfl, hm, hI, hR⟩
end
end
end Go.Proofs.Ytcocjffjhbpoeaa
