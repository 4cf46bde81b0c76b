/-
  Joined: ChM, EqCh.
-/
import Derived.Test.YtcohppfocfepdaaDoorJ07P
namespace Go.Proofs.YtcohppfocfepdaaDoor
section
open Go.RowKit
/-- What a page says. -/
structure PgD where
  used : Bool
  zs : List Int
/-- What a block says. -/
structure BkD where
  ps : List PgD
  wear : Int
  bad : Bool
structure PgR where
  used : Bool
  a : Option Addr
  cap : Nat
  zs : List Int
def PgR.D (p : PgR) : PgD := ⟨p.used, p.zs⟩
def PgR.v (p : PgR) : Value := .slice p.a p.zs.length p.cap
def pgE : El PgR := ⟨2, by omega, fun p => [.bool p.used, .slice p.a p.zs.length p.cap], fun _ => rfl⟩
def RdPs (w : World) (a : Option Addr) (ps : List PgR) : Prop := RdE pgE (fun p => Rd w p.a p.zs) w a ps
structure BkR where
  a : Option Addr
  cap : Nat
  ps : List PgR
  wear : Int
  bad : Bool
def BkR.D (b : BkR) : BkD := ⟨b.ps.map PgR.D, b.wear, b.bad⟩
def BkR.v (b : BkR) : Value := .slice b.a b.ps.length b.cap
def bkE : El BkR := ⟨3, by omega, fun b => [.slice b.a b.ps.length b.cap, .int .i64 b.wear, .bool b.bad], fun _ => rfl⟩
def RdBs (w : World) (a : Option Addr) (bs : List BkR) : Prop := RdE bkE (fun b => RdPs w b.a b.ps) w a bs
theorem RdPs.keep {w w' : World} {a : Option Addr} {ps : List PgR} (h : RdPs w a ps) (hb : Below w.heap.size w w') : RdPs w' a ps := RdE.mono h hb fun _ _ hr => Rd.keep hr hb
theorem RdBs.keep {w w' : World} {a : Option Addr} {bs : List BkR} (h : RdBs w a bs) (hb : Below w.heap.size w w') : RdBs w' a bs := RdE.mono h hb fun _ _ hr => RdPs.keep hr hb
/-- The cells of a page. -/
structure TwoP (w : World) (b off : Nat) (p : PgR) : Prop where
  c0 : w.cell? ⟨b, off, none⟩ = some (.bool p.used)
  c1 : w.cell? ⟨b, off + 1, none⟩ = some (.slice p.a p.zs.length p.cap)
theorem TwoP.keep {w w' : World} {b off B : Nat} {p : PgR} (h : TwoP w b off p) (hb : Below B w w') (hlt : b < B) : TwoP w' b off p := ⟨(hb.cell hlt).trans h.c0, (hb.cell hlt).trans h.c1⟩
/-- The cells of a block. -/
structure ThreeB (w : World) (b off : Nat) (r : BkR) : Prop where
  c0 : w.cell? ⟨b, off, none⟩ = some (.slice r.a r.ps.length r.cap)
  c1 : w.cell? ⟨b, off + 1, none⟩ = some (.int .i64 r.wear)
  c2 : w.cell? ⟨b, off + 2, none⟩ = some (.bool r.bad)
theorem ThreeB.keep {w w' : World} {b off B : Nat} {r : BkR} (h : ThreeB w b off r) (hb : Below B w w') (hlt : b < B) : ThreeB w' b off r := ⟨(hb.cell hlt).trans h.c0, (hb.cell hlt).trans h.c1, (hb.cell hlt).trans h.c2⟩
theorem RdPs.lt {w : World} {a : Option Addr} {ps : List PgR} (h : RdPs w a ps) (hz : ps ≠ []) : ∃ b off, a = some ⟨b, off, none⟩ ∧ b < w.heap.size ∧ ∀ i p, ps[i]? = some p → TwoP w b (off + i * 2) p ∧ Rd w p.a p.zs := by
  obtain ⟨b, off, h1, h2, h3⟩ := RdE.lt h hz
  exact ⟨b, off, h1, h2, fun i p hi => ⟨⟨(h3 i p hi).1 0 (by decide), (h3 i p hi).1 1 (by decide)⟩, (h3 i p hi).2⟩⟩
theorem RdBs.lt {w : World} {a : Option Addr} {bs : List BkR} (h : RdBs w a bs) (hz : bs ≠ []) : ∃ b off, a = some ⟨b, off, none⟩ ∧ b < w.heap.size ∧ ∀ i r, bs[i]? = some r → ThreeB w b (off + i * 3) r ∧ RdPs w r.a r.ps := by
  obtain ⟨b, off, h1, h2, h3⟩ := RdE.lt h hz
  exact ⟨b, off, h1, h2, fun i p hi => ⟨⟨(h3 i p hi).1 0 (by decide), (h3 i p hi).1 1 (by decide), (h3 i p hi).1 2 (by decide)⟩, (h3 i p hi).2⟩⟩
/-- How much there is: pages and bytes of a list of pages; of blocks with all of theirs. -/
def totP (ps : List PgD) : Nat := (ps.map fun p => 1 + p.zs.length).sum
def totB (bs : List BkD) : Nat := (bs.map fun b => 1 + totP b.ps).sum
theorem totP_cons (p : PgD) (ps : List PgD) : totP (p :: ps) = 1 + p.zs.length + totP ps := by simp [totP]
theorem totB_cons (b : BkD) (bs : List BkD) : totB (b :: bs) = 1 + totP b.ps + totB bs := by simp [totB]
theorem totB_append (ps qs : List BkD) : totB (ps ++ qs) = totB ps + totB qs := by simp [totB]
theorem totP_mem {p : PgD} {ps : List PgD} (h : p ∈ ps) : 1 + p.zs.length ≤ totP ps := by
  induction ps with
  | nil => simp at h
  | cons q ps ih =>
    rw [totP_cons]
    rcases List.mem_cons.1 h with rfl | h
    · omega
    · have := ih h; omega
theorem totB_mem {b : BkD} {bs : List BkD} (h : b ∈ bs) : 1 + totP b.ps ≤ totB bs := by
  induction bs with
  | nil => simp at h
  | cons q bs ih =>
    rw [totB_cons]
    rcases List.mem_cons.1 h with rfl | h
    · omega
    · have := ih h; omega
theorem totP_len (ps : List PgD) : ps.length ≤ totP ps := by
  induction ps with
  | nil => simp [totP]
  | cons q ps ih => rw [totP_cons]; simp only [List.length_cons]; omega
theorem totB_len (bs : List BkD) : bs.length ≤ totB bs := by
  induction bs with
  | nil => simp [totB]
  | cons q ps ih => rw [totB_cons]; simp only [List.length_cons]; omega
theorem totB_at {bs : List BkR} {i : Nat} {b : BkR} (h : bs[i]? = some b) : 1 + totP (b.ps.map PgR.D) ≤ totB (bs.map BkR.D) := totB_mem (b := b.D) (List.mem_map_of_mem (List.mem_of_getElem? h))
theorem totP_at {ps : List PgR} {i : Nat} {p : PgR} (h : ps[i]? = some p) : 1 + p.zs.length ≤ totP (ps.map PgR.D) := totP_mem (p := p.D) (List.mem_map_of_mem (List.mem_of_getElem? h))
/-- The bytes of a page, of the call's own (or nil). -/
def PgR.own (w : World) (p : PgR) : Prop := RowB w p.v p.zs.length p.zs ∧ p.zs.length ≤ p.cap
/-- The pages of a block, of the call's own, with all of theirs. -/
def OwnPs (w : World) (v : Value) (ps : List PgR) : Prop := OwnE pgE 55 w v ps.length ps ∧ ∀ p ∈ ps, p.own w
def OwnBs (w : World) (v : Value) (bs : List BkR) : Prop := OwnE bkE 34 w v bs.length bs ∧ ∀ b ∈ bs, OwnPs w b.v b.ps
/-- The blocks of memory that it takes. -/
def fpPs (v : Value) (ps : List PgR) : List Nat := v.ownBlock.toList ++ ps.flatMap fun p => p.v.ownBlock.toList
def fpBs (v : Value) (bs : List BkR) : List Nat := v.ownBlock.toList ++ bs.flatMap fun b => fpPs b.v b.ps
theorem fpPs_row {v : Value} {ps : List PgR} {g : Nat} (h : v.ownBlock = some g) : g ∈ fpPs v ps := by simp [fpPs, h]
theorem fpPs_pg {v : Value} {ps : List PgR} {p : PgR} {g : Nat} (hp : p ∈ ps) (h : p.v.ownBlock = some g) : g ∈ fpPs v ps := List.mem_append_right _ (List.mem_flatMap.2 ⟨p, hp, by simp [h]⟩)
theorem fpBs_row {v : Value} {bs : List BkR} {g : Nat} (h : v.ownBlock = some g) : g ∈ fpBs v bs := by simp [fpBs, h]
theorem fpBs_bk {v : Value} {bs : List BkR} {b : BkR} {g : Nat} (hp : b ∈ bs) (h : g ∈ fpPs b.v b.ps) : g ∈ fpBs v bs := List.mem_append_right _ (List.mem_flatMap.2 ⟨b, hp, h⟩)
theorem PgR.own.lt {w : World} {p : PgR} {g : Nat} (h : p.own w) (hg : p.v.ownBlock = some g) : g < w.heap.size := (RowB.at_ h.1 hg).1
theorem PgR.own.block {w w' : World} {p : PgR} (h : p.own w) (hb : ∀ g, p.v.ownBlock = some g → w'.heap[g]? = w.heap[g]?) : p.own w' := ⟨RowB.block h.1 hb, h.2⟩
theorem OwnPs.block {w w' : World} {v : Value} {ps : List PgR} (h : OwnPs w v ps) (hb : ∀ g, g ∈ fpPs v ps → w'.heap[g]? = w.heap[g]?) : OwnPs w' v ps :=
  ⟨h.1.block fun g hg => hb g (fpPs_row hg), fun p hp => (h.2 p hp).block fun g hg => hb g (fpPs_pg hp hg)⟩
theorem OwnBs.block {w w' : World} {v : Value} {bs : List BkR} (h : OwnBs w v bs) (hb : ∀ g, g ∈ fpBs v bs → w'.heap[g]? = w.heap[g]?) : OwnBs w' v bs :=
  ⟨h.1.block fun g hg => hb g (fpBs_row hg), fun b hp => (h.2 b hp).block fun g hg => hb g (fpBs_bk hp hg)⟩
theorem OwnPs.lt {w : World} {v : Value} {ps : List PgR} (h : OwnPs w v ps) : ∀ g ∈ fpPs v ps, g < w.heap.size := fun g hg => by
  rcases List.mem_append.1 hg with h1 | h1
  · exact h.1.lt (by simpa using h1)
  · obtain ⟨p, hp, h2⟩ := List.mem_flatMap.1 h1
    exact (h.2 p hp).lt (by simpa using h2)
theorem OwnBs.lt {w : World} {v : Value} {bs : List BkR} (h : OwnBs w v bs) : ∀ g ∈ fpBs v bs, g < w.heap.size := fun g hg => by
  rcases List.mem_append.1 hg with h1 | h1
  · exact h.1.lt (by simpa using h1)
  · obtain ⟨b, hp, h2⟩ := List.mem_flatMap.1 h1
    exact (h.2 b hp).lt g h2
theorem OwnPs.keep {w w' : World} {v : Value} {ps : List PgR} (h : OwnPs w v ps) (hb : Below w.heap.size w w') : OwnPs w' v ps := h.block fun g hg => hb.block g (h.lt g hg)
theorem OwnBs.keep {w w' : World} {v : Value} {bs : List BkR} (h : OwnBs w v bs) (hb : Below w.heap.size w w') : OwnBs w' v bs := h.block fun g hg => hb.block g (h.lt g hg)
theorem OwnPs.svs {w w' : World} {v : Value} {ps : List PgR} {F : List Nat} (h : OwnPs w v ps) (k : Sv F w w') (hd : ∀ g ∈ fpPs v ps, g ∉ F) : OwnPs w' v ps := h.block fun g hg => k.block g (h.lt g hg) (hd g hg)
theorem OwnBs.svs {w w' : World} {v : Value} {bs : List BkR} {F : List Nat} (h : OwnBs w v bs) (k : Sv F w w') (hd : ∀ g ∈ fpBs v bs, g ∉ F) : OwnBs w' v bs := h.block fun g hg => k.block g (h.lt g hg) (hd g hg)
theorem PgR.own.rd {w : World} {p : PgR} (h : p.own w) : Rd w p.a p.zs := by
  obtain ⟨a, c, e, r⟩ := RowB.form h.1
  unfold PgR.v at e
  simp only [Value.slice.injEq] at e
  rw [e.1]; exact r
theorem OwnPs.rd {w : World} {a : Option Addr} {c n : Nat} {ps : List PgR} (h : OwnPs w (.slice a n c) ps) : RdPs w a ps := by
  obtain ⟨a', c', e, r⟩ := OwnE.rd (rd := fun p => Rd w p.a p.zs) h.1 (fun p hp => (h.2 p hp).rd)
  simp only [Value.slice.injEq] at e
  rw [e.1]; exact r
theorem OwnBs.rd {w : World} {a : Option Addr} {c n : Nat} {bs : List BkR} (h : OwnBs w (.slice a n c) bs) : RdBs w a bs := by
  obtain ⟨a', c', e, r⟩ := OwnE.rd (rd := fun b => RdPs w b.a b.ps) h.1 (fun p hp => (h.2 p hp).rd)
  simp only [Value.slice.injEq] at e
  rw [e.1]; exact r
end

section
open Go.RowKit
theorem same_at {α δ : Type} {f : α → δ} {ps qs : List α} (h : qs.map f = ps.map f) {k : Nat} {r : α} (hr : ps[k]? = some r) : ∃ t, qs[k]? = some t ∧ f t = f r := by
  have := congrArg (fun l => l[k]?) h
  simp only [List.getElem?_map, hr, Option.map_some] at this
  cases ht : qs[k]? with
  | none => rw [ht] at this; simp at this
  | some t => rw [ht] at this; simp at this; exact ⟨t, rfl, this⟩
end
end Go.Proofs.YtcohppfocfepdaaDoor
