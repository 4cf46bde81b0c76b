/-
  Joined: ChM, ToTab, EqCh, ToCh.
-/
import Derived.Test.YtoeeblmnogeonaaGreatDoorJ03T
namespace Go.Proofs.YtoeeblmnogeonaaGreatDoor
section
open Go.RowKit
/-- What a page says. -/
structure PgD where
  used : Bool
  zs : List Int
/-- What a block says. -/
structure BkD where
  ps : List PgD
  wear : Int
  bad : Bool
structure PgR where
  used : Bool
  a : Option Addr
  cap : Nat
  zs : List Int
def PgR.D (p : PgR) : PgD := ⟨p.used, p.zs⟩
def PgR.v (p : PgR) : Value := .slice p.a p.zs.length p.cap
def pgE : El PgR := ⟨2, by omega, fun p => [.bool p.used, .slice p.a p.zs.length p.cap], fun _ => rfl⟩
def RdPs (w : World) (a : Option Addr) (ps : List PgR) : Prop := RdE pgE (fun p => Rd w p.a p.zs) w a ps
structure BkR where
  a : Option Addr
  cap : Nat
  ps : List PgR
  wear : Int
  bad : Bool
def BkR.D (b : BkR) : BkD := ⟨b.ps.map PgR.D, b.wear, b.bad⟩
def BkR.v (b : BkR) : Value := .slice b.a b.ps.length b.cap
def bkE : El BkR := ⟨3, by omega, fun b => [.slice b.a b.ps.length b.cap, .int .i64 b.wear, .bool b.bad], fun _ => rfl⟩
def RdBs (w : World) (a : Option Addr) (bs : List BkR) : Prop := RdE bkE (fun b => RdPs w b.a b.ps) w a bs
theorem RdPs.keep {w w' : World} {a : Option Addr} {ps : List PgR} (h : RdPs w a ps) (hb : Below w.heap.size w w') : RdPs w' a ps := RdE.mono h hb fun _ _ hr => Rd.keep hr hb
theorem RdBs.keep {w w' : World} {a : Option Addr} {bs : List BkR} (h : RdBs w a bs) (hb : Below w.heap.size w w') : RdBs w' a bs := RdE.mono h hb fun _ _ hr => RdPs.keep hr hb
/-- The cells of a page. -/
structure TwoP (w : World) (b off : Nat) (p : PgR) : Prop where
  c0 : w.cell? ⟨b, off, none⟩ = some (.bool p.used)
  c1 : w.cell? ⟨b, off + 1, none⟩ = some (.slice p.a p.zs.length p.cap)
theorem TwoP.keep {w w' : World} {b off B : Nat} {p : PgR} (h : TwoP w b off p) (hb : Below B w w') (hlt : b < B) : TwoP w' b off p := ⟨(hb.cell hlt).trans h.c0, (hb.cell hlt).trans h.c1⟩
/-- The cells of a block. -/
structure ThreeB (w : World) (b off : Nat) (r : BkR) : Prop where
  c0 : w.cell? ⟨b, off, none⟩ = some (.slice r.a r.ps.length r.cap)
  c1 : w.cell? ⟨b, off + 1, none⟩ = some (.int .i64 r.wear)
  c2 : w.cell? ⟨b, off + 2, none⟩ = some (.bool r.bad)
theorem ThreeB.keep {w w' : World} {b off B : Nat} {r : BkR} (h : ThreeB w b off r) (hb : Below B w w') (hlt : b < B) : ThreeB w' b off r := ⟨(hb.cell hlt).trans h.c0, (hb.cell hlt).trans h.c1, (hb.cell hlt).trans h.c2⟩
theorem RdPs.lt {w : World} {a : Option Addr} {ps : List PgR} (h : RdPs w a ps) (hz : ps ≠ []) : ∃ b off, a = some ⟨b, off, none⟩ ∧ b < w.heap.size ∧ ∀ i p, ps[i]? = some p → TwoP w b (off + i * 2) p ∧ Rd w p.a p.zs := by
  obtain ⟨b, off, h1, h2, h3⟩ := RdE.lt h hz
  exact ⟨b, off, h1, h2, fun i p hi => ⟨⟨(h3 i p hi).1 0 (by decide), (h3 i p hi).1 1 (by decide)⟩, (h3 i p hi).2⟩⟩
theorem RdBs.lt {w : World} {a : Option Addr} {bs : List BkR} (h : RdBs w a bs) (hz : bs ≠ []) : ∃ b off, a = some ⟨b, off, none⟩ ∧ b < w.heap.size ∧ ∀ i r, bs[i]? = some r → ThreeB w b (off + i * 3) r ∧ RdPs w r.a r.ps := by
  obtain ⟨b, off, h1, h2, h3⟩ := RdE.lt h hz
  exact ⟨b, off, h1, h2, fun i p hi => ⟨⟨(h3 i p hi).1 0 (by decide), (h3 i p hi).1 1 (by decide), (h3 i p hi).1 2 (by decide)⟩, (h3 i p hi).2⟩⟩
/-- How much there is: pages and bytes of a list of pages; of blocks with all of theirs. -/
def totP (ps : List PgD) : Nat := (ps.map fun p => 1 + p.zs.length).sum
def totB (bs : List BkD) : Nat := (bs.map fun b => 1 + totP b.ps).sum
theorem totP_cons (p : PgD) (ps : List PgD) : totP (p :: ps) = 1 + p.zs.length + totP ps := by simp [totP]
theorem totB_cons (b : BkD) (bs : List BkD) : totB (b :: bs) = 1 + totP b.ps + totB bs := by simp [totB]
theorem totB_append (ps qs : List BkD) : totB (ps ++ qs) = totB ps + totB qs := by simp [totB]
theorem totP_mem {p : PgD} {ps : List PgD} (h : p ∈ ps) : 1 + p.zs.length ≤ totP ps := by
  induction ps with
  | nil => simp at h
  | cons q ps ih =>
    rw [totP_cons]
    rcases List.mem_cons.1 h with rfl | h
    · omega
    · have := ih h; omega
theorem totB_mem {b : BkD} {bs : List BkD} (h : b ∈ bs) : 1 + totP b.ps ≤ totB bs := by
  induction bs with
  | nil => simp at h
  | cons q bs ih =>
    rw [totB_cons]
    rcases List.mem_cons.1 h with rfl | h
    · omega
    · have := ih h; omega
theorem totP_len (ps : List PgD) : ps.length ≤ totP ps := by
  induction ps with
  | nil => simp [totP]
  | cons q ps ih => rw [totP_cons]; simp only [List.length_cons]; omega
theorem totB_len (bs : List BkD) : bs.length ≤ totB bs := by
  induction bs with
  | nil => simp [totB]
  | cons q ps ih => rw [totB_cons]; simp only [List.length_cons]; omega
theorem totB_at {bs : List BkR} {i : Nat} {b : BkR} (h : bs[i]? = some b) : 1 + totP (b.ps.map PgR.D) ≤ totB (bs.map BkR.D) := totB_mem (b := b.D) (List.mem_map_of_mem (List.mem_of_getElem? h))
theorem totP_at {ps : List PgR} {i : Nat} {p : PgR} (h : ps[i]? = some p) : 1 + p.zs.length ≤ totP (ps.map PgR.D) := totP_mem (p := p.D) (List.mem_map_of_mem (List.mem_of_getElem? h))
/-- The bytes of a page, of the call's own (or nil). -/
def PgR.own (w : World) (p : PgR) : Prop := RowB w p.v p.zs.length p.zs ∧ p.zs.length ≤ p.cap
/-- The pages of a block, of the call's own, with all of theirs. -/
def OwnPs (w : World) (v : Value) (ps : List PgR) : Prop := OwnE pgE 92 w v ps.length ps ∧ ∀ p ∈ ps, p.own w
def OwnBs (w : World) (v : Value) (bs : List BkR) : Prop := OwnE bkE 42 w v bs.length bs ∧ ∀ b ∈ bs, OwnPs w b.v b.ps
/-- The blocks of memory that it takes. -/
def fpPs (v : Value) (ps : List PgR) : List Nat := v.ownBlock.toList ++ ps.flatMap fun p => p.v.ownBlock.toList
def fpBs (v : Value) (bs : List BkR) : List Nat := v.ownBlock.toList ++ bs.flatMap fun b => fpPs b.v b.ps
theorem fpPs_row {v : Value} {ps : List PgR} {g : Nat} (h : v.ownBlock = some g) : g ∈ fpPs v ps := by simp [fpPs, h]
theorem fpPs_pg {v : Value} {ps : List PgR} {p : PgR} {g : Nat} (hp : p ∈ ps) (h : p.v.ownBlock = some g) : g ∈ fpPs v ps := List.mem_append_right _ (List.mem_flatMap.2 ⟨p, hp, by simp [h]⟩)
theorem fpBs_row {v : Value} {bs : List BkR} {g : Nat} (h : v.ownBlock = some g) : g ∈ fpBs v bs := by simp [fpBs, h]
theorem fpBs_bk {v : Value} {bs : List BkR} {b : BkR} {g : Nat} (hp : b ∈ bs) (h : g ∈ fpPs b.v b.ps) : g ∈ fpBs v bs := List.mem_append_right _ (List.mem_flatMap.2 ⟨b, hp, h⟩)
theorem PgR.own.lt {w : World} {p : PgR} {g : Nat} (h : p.own w) (hg : p.v.ownBlock = some g) : g < w.heap.size := (RowB.at_ h.1 hg).1
theorem PgR.own.block {w w' : World} {p : PgR} (h : p.own w) (hb : ∀ g, p.v.ownBlock = some g → w'.heap[g]? = w.heap[g]?) : p.own w' := ⟨RowB.block h.1 hb, h.2⟩
theorem OwnPs.block {w w' : World} {v : Value} {ps : List PgR} (h : OwnPs w v ps) (hb : ∀ g, g ∈ fpPs v ps → w'.heap[g]? = w.heap[g]?) : OwnPs w' v ps :=
  ⟨h.1.block fun g hg => hb g (fpPs_row hg), fun p hp => (h.2 p hp).block fun g hg => hb g (fpPs_pg hp hg)⟩
theorem OwnBs.block {w w' : World} {v : Value} {bs : List BkR} (h : OwnBs w v bs) (hb : ∀ g, g ∈ fpBs v bs → w'.heap[g]? = w.heap[g]?) : OwnBs w' v bs :=
  ⟨h.1.block fun g hg => hb g (fpBs_row hg), fun b hp => (h.2 b hp).block fun g hg => hb g (fpBs_bk hp hg)⟩
theorem OwnPs.lt {w : World} {v : Value} {ps : List PgR} (h : OwnPs w v ps) : ∀ g ∈ fpPs v ps, g < w.heap.size := fun g hg => by
  rcases List.mem_append.1 hg with h1 | h1
  · exact h.1.lt (by simpa using h1)
  · obtain ⟨p, hp, h2⟩ := List.mem_flatMap.1 h1
    exact (h.2 p hp).lt (by simpa using h2)
theorem OwnBs.lt {w : World} {v : Value} {bs : List BkR} (h : OwnBs w v bs) : ∀ g ∈ fpBs v bs, g < w.heap.size := fun g hg => by
  rcases List.mem_append.1 hg with h1 | h1
  · exact h.1.lt (by simpa using h1)
  · obtain ⟨b, hp, h2⟩ := List.mem_flatMap.1 h1
    exact (h.2 b hp).lt g h2
theorem OwnPs.keep {w w' : World} {v : Value} {ps : List PgR} (h : OwnPs w v ps) (hb : Below w.heap.size w w') : OwnPs w' v ps := h.block fun g hg => hb.block g (h.lt g hg)
theorem OwnBs.keep {w w' : World} {v : Value} {bs : List BkR} (h : OwnBs w v bs) (hb : Below w.heap.size w w') : OwnBs w' v bs := h.block fun g hg => hb.block g (h.lt g hg)
theorem OwnPs.svs {w w' : World} {v : Value} {ps : List PgR} {F : List Nat} (h : OwnPs w v ps) (k : Sv F w w') (hd : ∀ g ∈ fpPs v ps, g ∉ F) : OwnPs w' v ps := h.block fun g hg => k.block g (h.lt g hg) (hd g hg)
theorem OwnBs.svs {w w' : World} {v : Value} {bs : List BkR} {F : List Nat} (h : OwnBs w v bs) (k : Sv F w w') (hd : ∀ g ∈ fpBs v bs, g ∉ F) : OwnBs w' v bs := h.block fun g hg => k.block g (h.lt g hg) (hd g hg)
theorem PgR.own.rd {w : World} {p : PgR} (h : p.own w) : Rd w p.a p.zs := by
  obtain ⟨a, c, e, r⟩ := RowB.form h.1
  unfold PgR.v at e
  simp only [Value.slice.injEq] at e
  rw [e.1]; exact r
theorem OwnPs.rd {w : World} {a : Option Addr} {c n : Nat} {ps : List PgR} (h : OwnPs w (.slice a n c) ps) : RdPs w a ps := by
  obtain ⟨a', c', e, r⟩ := OwnE.rd (rd := fun p => Rd w p.a p.zs) h.1 (fun p hp => (h.2 p hp).rd)
  simp only [Value.slice.injEq] at e
  rw [e.1]; exact r
theorem OwnBs.rd {w : World} {a : Option Addr} {c n : Nat} {bs : List BkR} (h : OwnBs w (.slice a n c) bs) : RdBs w a bs := by
  obtain ⟨a', c', e, r⟩ := OwnE.rd (rd := fun b => RdPs w b.a b.ps) h.1 (fun p hp => (h.2 p hp).rd)
  simp only [Value.slice.injEq] at e
  rw [e.1]; exact r
end

section
open Go.RowKit
theorem gr_more {w w1 : World} {g : Nat} (h : w.grownBy w1 (some g)) (j : Nat) (v : Value) : w.grownBy (w1.setCell ⟨g, j, none⟩ v) (some g) :=
  ⟨h.os, h.tape, h.output, by rw [size_setC]; exact h.size, fun m hm hk => (heap_setCell_other w1 ⟨g, j, none⟩ m v (fun e => hk (by simp [e]))).trans (h.block m hm hk)⟩
end

section
open Go.RowKit
theorem same_at {α δ : Type} {f : α → δ} {ps qs : List α} (h : qs.map f = ps.map f) {k : Nat} {r : α} (hr : ps[k]? = some r) : ∃ t, qs[k]? = some t ∧ f t = f r := by
  have := congrArg (fun l => l[k]?) h
  simp only [List.getElem?_map, hr, Option.map_some] at this
  cases ht : qs[k]? with
  | none => rw [ht] at this; simp at this
  | some t => rw [ht] at this; simp at this; exact ⟨t, rfl, this⟩
end

section
open Go.RowKit
theorem Tryz.infoPage : (Tryz.prog.info? 92).map (fun i => (i.zero, i.size, i.bytes)) = some (some (.agg #[.bool false, .slice none 0 0]), 2, 32) := by kernel_rfl
theorem Tryz.infoBlock : (Tryz.prog.info? 42).map (fun i => (i.zero, i.size, i.bytes)) = some (some (.agg #[.slice none 0 0, .int .i64 0, .bool false]), 3, 40) := by kernel_rfl
def pgZ : PgR := ⟨false, none, 0, []⟩
theorem made_row {α : Type} (E : El α) (z : α) (zv : Value) (hz : zv.cells.toList = E.en z) {w : World} {g n : Nat} {ty : TypeId} (h : w.ownsRow 0 ty E.k (.slice (some ⟨g, 0, none⟩) n n) n (madeCells zv.cells (n * E.k)).toList) : OwnE E ty w (.slice (some ⟨g, 0, none⟩) n n) n (List.replicate n z) := by
  unfold OwnE
  have hp := E.pos
  have e : (madeCells zv.cells (n * E.k)).toList = E.xv (List.replicate n z) := by
    apply List.ext_getElem?
    intro m
    have hzl : zv.cells.size = E.k := by rw [← Array.length_toList, hz, E.len]
    by_cases hm : m < n * E.k
    · have hd : m / E.k < n := Nat.div_lt_of_lt_mul (by rw [Nat.mul_comm]; exact hm)
      have h1 := E.xv_at (List.replicate n z) (m / E.k) (m % E.k) z (by rw [List.getElem?_replicate, if_pos hd]) (Nat.mod_lt _ hp)
      rw [show m / E.k * E.k + m % E.k = m by rw [Nat.mul_comm]; exact Nat.div_add_mod m E.k] at h1
      rw [h1, ← hz]
      have hlen : (madeCells zv.cells (n * E.k)).toList.length = n * E.k := by simp [madeCells]
      rw [List.getElem?_eq_getElem (by rw [hlen]; exact hm), List.getElem?_eq_getElem (by rw [Array.length_toList, hzl]; exact Nat.mod_lt _ hp)]
      simp [madeCells, hzl, Nat.mod_lt _ hp]
    · rw [List.getElem?_eq_none (by simp [madeCells]; omega), List.getElem?_eq_none (by rw [E.xv_length]; simp; omega)]
  rw [← e]
  exact h
theorem made_ownPs {w : World} {g n : Nat} (h : w.ownsRow 0 92 2 (.slice (some ⟨g, 0, none⟩) n n) n (madeCells (Value.agg #[.bool false, .slice none 0 0]).cells (n * 2)).toList) : OwnE pgE 92 w (.slice (some ⟨g, 0, none⟩) n n) n (List.replicate n pgZ) := made_row pgE pgZ (.agg #[.bool false, .slice none 0 0]) rfl h
/-- What is built up of a list's elements: D what each says, own that it is the call's own, fp the blocks of memory that it takes. -/
structure Kd (α δ : Type) where
  D : α → δ
  own : World → α → Prop
  fp : α → List Nat
  block : ∀ {w w' : World} {a : α}, own w a → (∀ g ∈ fp a, w'.heap[g]? = w.heap[g]?) → own w' a
  lt : ∀ {w : World} {a : α}, own w a → ∀ g ∈ fp a, g < w.heap.size
def Kd.fps {α δ : Type} (K : Kd α δ) (qs : List α) : List Nat := qs.flatMap K.fp
/-- Elements that are new from H on, none of their blocks of memory twice. -/
structure Inn {α δ : Type} (K : Kd α δ) (w : World) (H : Nat) (ds : List δ) (qs : List α) : Prop where
  D : qs.map K.D = ds
  own : ∀ q ∈ qs, K.own w q
  new : ∀ g ∈ K.fps qs, H ≤ g
  nd : (K.fps qs).Nodup
theorem Inn.nil {α δ : Type} (K : Kd α δ) (w : World) (H : Nat) : Inn K w H [] [] := ⟨rfl, fun q hq => by simp at hq, fun g hg => by simp [Kd.fps] at hg, by simp [Kd.fps]⟩
theorem Inn.lt {α δ : Type} {K : Kd α δ} {w : World} {H : Nat} {ds : List δ} {qs : List α} (h : Inn K w H ds qs) : ∀ g ∈ K.fps qs, g < w.heap.size := fun g hg => by
  obtain ⟨q, hq, h2⟩ := List.mem_flatMap.1 hg
  exact K.lt (h.own q hq) g h2
theorem Inn.block {α δ : Type} {K : Kd α δ} {w w' : World} {H : Nat} {ds : List δ} {qs : List α} (h : Inn K w H ds qs) (hb : ∀ g ∈ K.fps qs, w'.heap[g]? = w.heap[g]?) : Inn K w' H ds qs :=
  ⟨h.D, fun q hq => K.block (h.own q hq) fun g hg => hb g (List.mem_flatMap.2 ⟨q, hq, hg⟩), h.new, h.nd⟩
theorem Inn.keep {α δ : Type} {K : Kd α δ} {w w' : World} {H : Nat} {ds : List δ} {qs : List α} (h : Inn K w H ds qs) (hb : Below w.heap.size w w') : Inn K w' H ds qs := h.block fun g hg => hb.block g (h.lt g hg)
theorem Inn.kept {α δ : Type} {K : Kd α δ} {w w' : World} {H r : Nat} {ds : List δ} {qs : List α} (h : Inn K w H ds qs) (hg : w.grownBy w' (some r)) (hr : r ∉ K.fps qs) : Inn K w' H ds qs := h.block fun g hq => hg.block g (h.lt g hq) (fun e => by simp at e; subst e; exact hr hq)
theorem Inn.below {α δ : Type} {K : Kd α δ} {w : World} {H r : Nat} {ds : List δ} {qs : List α} (h : Inn K w H ds qs) (hr : r < H) : r ∉ K.fps qs := fun hg => by have := h.new r hg; omega
theorem Inn.snoc {α δ : Type} {K : Kd α δ} {w : World} {H S : Nat} {ds : List δ} {qs : List α} {q : α} (h : Inn K w H ds qs) (hS : ∀ g ∈ K.fps qs, g < S) (hq : K.own w q) (hn : ∀ g ∈ K.fp q, S ≤ g ∧ H ≤ g) (hd : (K.fp q).Nodup) : Inn K w H (ds ++ [K.D q]) (qs ++ [q]) := by
  refine ⟨by rw [List.map_append, h.D]; rfl, fun r hr => ?_, fun g hg => ?_, ?_⟩
  · rcases List.mem_append.1 hr with h1 | h1
    · exact h.own r h1
    · simp at h1; subst h1; exact hq
  · unfold Kd.fps at hg
    rw [List.flatMap_append] at hg
    rcases List.mem_append.1 hg with h1 | h1
    · exact h.new g h1
    · simp at h1; exact (hn g h1).2
  · unfold Kd.fps
    rw [List.flatMap_append, List.nodup_append]
    refine ⟨h.nd, by simpa using hd, fun a ha b hb e => ?_⟩
    simp at hb
    have h1 := hS a ha
    have h2 := (hn b hb).1
    omega
theorem Inn.wider {α δ : Type} {K : Kd α δ} {w : World} {H H' : Nat} {ds : List δ} {qs : List α} (h : Inn K w H ds qs) (hH : H' ≤ H) : Inn K w H' ds qs := ⟨h.D, h.own, fun g hg => Nat.le_trans hH (h.new g hg), h.nd⟩
def pgK : Kd PgR PgD := ⟨PgR.D, fun w p => p.own w, fun p => p.v.ownBlock.toList, fun h hb => PgR.own.block h fun g hg => hb g (by simp [hg]), fun h g hg => PgR.own.lt h (by simpa using hg)⟩
def bkK : Kd BkR BkD := ⟨BkR.D, fun w b => OwnPs w b.v b.ps, fun b => fpPs b.v b.ps, fun h hb => OwnPs.block h hb, fun h g hg => OwnPs.lt h g hg⟩
/-- New pages: what they say is told; all their blocks of memory are from B up, none twice. -/
structure NewPs (w : World) (B : Nat) (v : Value) (ds : List PgD) (ps : List PgR) : Prop where
  D : ps.map PgR.D = ds
  own : OwnPs w v ps
  new : ∀ g ∈ fpPs v ps, B ≤ g
  nd : (fpPs v ps).Nodup
structure NewBs (w : World) (B : Nat) (v : Value) (ds : List BkD) (bs : List BkR) : Prop where
  D : bs.map BkR.D = ds
  own : OwnBs w v bs
  new : ∀ g ∈ fpBs v bs, B ≤ g
  nd : (fpBs v bs).Nodup
theorem NewPs.keep {w w' : World} {B : Nat} {v : Value} {ds : List PgD} {ps : List PgR} (h : NewPs w B v ds ps) (hb : Below w.heap.size w w') : NewPs w' B v ds ps := ⟨h.D, h.own.keep hb, h.new, h.nd⟩
theorem NewBs.keep {w w' : World} {B : Nat} {v : Value} {ds : List BkD} {bs : List BkR} (h : NewBs w B v ds bs) (hb : Below w.heap.size w w') : NewBs w' B v ds bs := ⟨h.D, h.own.keep hb, h.new, h.nd⟩
theorem NewBs.svs {w w' : World} {B : Nat} {v : Value} {ds : List BkD} {bs : List BkR} {F : List Nat} (h : NewBs w B v ds bs) (k : Sv F w w') (hd : ∀ g ∈ fpBs v bs, g ∉ F) : NewBs w' B v ds bs := ⟨h.D, h.own.svs k hd, h.new, h.nd⟩
theorem NewPs.len {w : World} {B : Nat} {v : Value} {ds : List PgD} {ps : List PgR} (h : NewPs w B v ds ps) : ps.length = ds.length := by rw [← h.D]; simp
theorem NewBs.len {w : World} {B : Nat} {v : Value} {ds : List BkD} {ps : List BkR} (h : NewBs w B v ds ps) : ps.length = ds.length := by rw [← h.D]; simp
theorem NewPs.wider {w : World} {B B' : Nat} {v : Value} {ds : List PgD} {ps : List PgR} (h : NewPs w B v ds ps) (hB : B' ≤ B) : NewPs w B' v ds ps := ⟨h.D, h.own, fun g hg => Nat.le_trans hB (h.new g hg), h.nd⟩
theorem NewBs.wider {w : World} {B B' : Nat} {v : Value} {ds : List BkD} {ps : List BkR} (h : NewBs w B v ds ps) (hB : B' ≤ B) : NewBs w B' v ds ps := ⟨h.D, h.own, fun g hg => Nat.le_trans hB (h.new g hg), h.nd⟩
theorem Inn.newPs {w : World} {H B : Nat} {v : Value} {ds : List PgD} {ps : List PgR} (h : Inn pgK w H ds ps) (ho : OwnE pgE 92 w v ps.length ps) (hB : B ≤ H) (hv : ∀ g, v.ownBlock = some g → B ≤ g ∧ g ∉ pgK.fps ps) : NewPs w B v ds ps := by
  refine ⟨h.D, ⟨ho, h.own⟩, fun g hg => ?_, ?_⟩
  · rcases List.mem_append.1 hg with h1 | h1
    · exact (hv g (by simpa using h1)).1
    · exact Nat.le_trans hB (h.new g h1)
  · refine List.nodup_append.2 ⟨by cases v.ownBlock <;> simp, h.nd, fun a ha b hb e => ?_⟩
    subst e
    exact (hv a (by simpa using ha)).2 hb
theorem Inn.newBs {w : World} {H B : Nat} {v : Value} {ds : List BkD} {ps : List BkR} (h : Inn bkK w H ds ps) (ho : OwnE bkE 42 w v ps.length ps) (hB : B ≤ H) (hv : ∀ g, v.ownBlock = some g → B ≤ g ∧ g ∉ bkK.fps ps) : NewBs w B v ds ps := by
  refine ⟨h.D, ⟨ho, h.own⟩, fun g hg => ?_, ?_⟩
  · rcases List.mem_append.1 hg with h1 | h1
    · exact (hv g (by simpa using h1)).1
    · exact Nat.le_trans hB (h.new g h1)
  · refine List.nodup_append.2 ⟨by cases v.ownBlock <;> simp, h.nd, fun a ha b hb e => ?_⟩
    subst e
    exact (hv a (by simpa using ha)).2 hb
theorem Own.pg {w : World} {g n c : Nat} {zs : List Int} (u : Bool) (h : Own w g n c zs) : PgR.own w ⟨u, some ⟨g, 0, none⟩, c, zs⟩ := by
  have hl := h.len
  subst hl
  refine ⟨OwnV.rowB (B := 0) (Own.toV h (Nat.zero_le _)), ?_⟩
  show zs.length ≤ c
  rcases h.2 with ⟨h1, h2⟩ | ⟨g', c', cur, h1, _, _, h2, _⟩
  · simp at h1
  · simp only [Value.slice.injEq] at h1
    omega
theorem NewPs.set_below {W : World} {B j i : Nat} {v u : Value} {ds : List PgD} {qs : List PgR} (h : NewPs W B v ds qs) (hj : j < B) : NewPs (W.setCell ⟨j, i, none⟩ u) B v ds qs := ⟨h.D, h.own.block fun g hg => Below.heap_setCell _ _ _ _ (by have := h.new g hg; show g ≠ j; omega), h.new, h.nd⟩
theorem NewBs.set_below {W : World} {B j i : Nat} {v u : Value} {ds : List BkD} {qs : List BkR} (h : NewBs W B v ds qs) (hj : j < B) : NewBs (W.setCell ⟨j, i, none⟩ u) B v ds qs := ⟨h.D, h.own.block fun g hg => Below.heap_setCell _ _ _ _ (by have := h.new g hg; show g ≠ j; omega), h.new, h.nd⟩
theorem NewBs.rd {w : World} {B n c : Nat} {a : Option Addr} {ds : List BkD} {bs : List BkR} (h : NewBs w B (.slice a n c) ds bs) : RdBs w a bs := h.own.rd
end
end Go.Proofs.YtoeeblmnogeonaaGreatDoor
