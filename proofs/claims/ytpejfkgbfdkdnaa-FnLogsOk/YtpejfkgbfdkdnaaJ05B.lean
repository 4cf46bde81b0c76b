/-
  Joined: ToCh, ChFn, DvM.
-/
import Derived.Test.YtpejfkgbfdkdnaaJ04B
namespace Go.Proofs.Ytpejfkgbfdkdnaa
section
open Go.RowKit
theorem Try.infoPage : (Try.prog.info? 74).map (fun i => (i.zero, i.size, i.bytes)) = some (some (.agg #[.bool false, .slice none 0 0]), 2, 32) := by kernel_rfl
theorem Try.infoBlock : (Try.prog.info? 39).map (fun i => (i.zero, i.size, i.bytes)) = some (some (.agg #[.slice none 0 0, .int .i64 0, .bool false]), 3, 40) := by kernel_rfl
def pgZ : PgR := ⟨false, none, 0, []⟩
theorem made_row {α : Type} (E : El α) (z : α) (zv : Value) (hz : zv.cells.toList = E.en z) {w : World} {g n : Nat} {ty : TypeId} (h : w.ownsRow 0 ty E.k (.slice (some ⟨g, 0, none⟩) n n) n (madeCells zv.cells (n * E.k)).toList) : OwnE E ty w (.slice (some ⟨g, 0, none⟩) n n) n (List.replicate n z) := by
  unfold OwnE
  have hp := E.pos
  have e : (madeCells zv.cells (n * E.k)).toList = E.xv (List.replicate n z) := by
    apply List.ext_getElem?
    intro m
    have hzl : zv.cells.size = E.k := by rw [← Array.length_toList, hz, E.len]
    by_cases hm : m < n * E.k
    · have hd : m / E.k < n := Nat.div_lt_of_lt_mul (by rw [Nat.mul_comm]; exact hm)
      have h1 := E.xv_at (List.replicate n z) (m / E.k) (m % E.k) z (by rw [List.getElem?_replicate, if_pos hd]) (Nat.mod_lt _ hp)
      rw [show m / E.k * E.k + m % E.k = m by rw [Nat.mul_comm]; exact Nat.div_add_mod m E.k] at h1
      rw [h1, ← hz]
      have hlen : (madeCells zv.cells (n * E.k)).toList.length = n * E.k := by simp [madeCells]
      rw [List.getElem?_eq_getElem (by rw [hlen]; exact hm), List.getElem?_eq_getElem (by rw [Array.length_toList, hzl]; exact Nat.mod_lt _ hp)]
      simp [madeCells, hzl, Nat.mod_lt _ hp]
    · rw [List.getElem?_eq_none (by simp [madeCells]; omega), List.getElem?_eq_none (by rw [E.xv_length]; simp; omega)]
  rw [← e]
  exact h
theorem made_ownPs {w : World} {g n : Nat} (h : w.ownsRow 0 74 2 (.slice (some ⟨g, 0, none⟩) n n) n (madeCells (Value.agg #[.bool false, .slice none 0 0]).cells (n * 2)).toList) : OwnE pgE 74 w (.slice (some ⟨g, 0, none⟩) n n) n (List.replicate n pgZ) := made_row pgE pgZ (.agg #[.bool false, .slice none 0 0]) rfl h
/-- What is built up of a list's elements: D what each says, own that it is the call's own, fp the blocks of memory that it takes. -/
structure Kd (α δ : Type) where
  D : α → δ
  own : World → α → Prop
  fp : α → List Nat
  block : ∀ {w w' : World} {a : α}, own w a → (∀ g ∈ fp a, w'.heap[g]? = w.heap[g]?) → own w' a
  lt : ∀ {w : World} {a : α}, own w a → ∀ g ∈ fp a, g < w.heap.size
def Kd.fps {α δ : Type} (K : Kd α δ) (qs : List α) : List Nat := qs.flatMap K.fp
/-- Elements that are new from H on, none of their blocks of memory twice. -/
structure Inn {α δ : Type} (K : Kd α δ) (w : World) (H : Nat) (ds : List δ) (qs : List α) : Prop where
  D : qs.map K.D = ds
  own : ∀ q ∈ qs, K.own w q
  new : ∀ g ∈ K.fps qs, H ≤ g
  nd : (K.fps qs).Nodup
theorem Inn.nil {α δ : Type} (K : Kd α δ) (w : World) (H : Nat) : Inn K w H [] [] := ⟨rfl, fun q hq => by simp at hq, fun g hg => by simp [Kd.fps] at hg, by simp [Kd.fps]⟩
theorem Inn.lt {α δ : Type} {K : Kd α δ} {w : World} {H : Nat} {ds : List δ} {qs : List α} (h : Inn K w H ds qs) : ∀ g ∈ K.fps qs, g < w.heap.size := fun g hg => by
  obtain ⟨q, hq, h2⟩ := List.mem_flatMap.1 hg
  exact K.lt (h.own q hq) g h2
theorem Inn.block {α δ : Type} {K : Kd α δ} {w w' : World} {H : Nat} {ds : List δ} {qs : List α} (h : Inn K w H ds qs) (hb : ∀ g ∈ K.fps qs, w'.heap[g]? = w.heap[g]?) : Inn K w' H ds qs :=
  ⟨h.D, fun q hq => K.block (h.own q hq) fun g hg => hb g (List.mem_flatMap.2 ⟨q, hq, hg⟩), h.new, h.nd⟩
theorem Inn.keep {α δ : Type} {K : Kd α δ} {w w' : World} {H : Nat} {ds : List δ} {qs : List α} (h : Inn K w H ds qs) (hb : Below w.heap.size w w') : Inn K w' H ds qs := h.block fun g hg => hb.block g (h.lt g hg)
theorem Inn.kept {α δ : Type} {K : Kd α δ} {w w' : World} {H r : Nat} {ds : List δ} {qs : List α} (h : Inn K w H ds qs) (hg : w.grownBy w' (some r)) (hr : r ∉ K.fps qs) : Inn K w' H ds qs := h.block fun g hq => hg.block g (h.lt g hq) (fun e => by simp at e; subst e; exact hr hq)
theorem Inn.below {α δ : Type} {K : Kd α δ} {w : World} {H r : Nat} {ds : List δ} {qs : List α} (h : Inn K w H ds qs) (hr : r < H) : r ∉ K.fps qs := fun hg => by have := h.new r hg; omega
theorem Inn.snoc {α δ : Type} {K : Kd α δ} {w : World} {H S : Nat} {ds : List δ} {qs : List α} {q : α} (h : Inn K w H ds qs) (hS : ∀ g ∈ K.fps qs, g < S) (hq : K.own w q) (hn : ∀ g ∈ K.fp q, S ≤ g ∧ H ≤ g) (hd : (K.fp q).Nodup) : Inn K w H (ds ++ [K.D q]) (qs ++ [q]) := by
  refine ⟨by rw [List.map_append, h.D]; rfl, fun r hr => ?_, fun g hg => ?_, ?_⟩
  · rcases List.mem_append.1 hr with h1 | h1
    · exact h.own r h1
    · simp at h1; subst h1; exact hq
  · unfold Kd.fps at hg
    rw [List.flatMap_append] at hg
    rcases List.mem_append.1 hg with h1 | h1
    · exact h.new g h1
    · simp at h1; exact (hn g h1).2
  · unfold Kd.fps
    rw [List.flatMap_append, List.nodup_append]
    refine ⟨h.nd, by simpa using hd, fun a ha b hb e => ?_⟩
    simp at hb
    have h1 := hS a ha
    have h2 := (hn b hb).1
    omega
theorem Inn.wider {α δ : Type} {K : Kd α δ} {w : World} {H H' : Nat} {ds : List δ} {qs : List α} (h : Inn K w H ds qs) (hH : H' ≤ H) : Inn K w H' ds qs := ⟨h.D, h.own, fun g hg => Nat.le_trans hH (h.new g hg), h.nd⟩
def pgK : Kd PgR PgD := ⟨PgR.D, fun w p => p.own w, fun p => p.v.ownBlock.toList, fun h hb => PgR.own.block h fun g hg => hb g (by simp [hg]), fun h g hg => PgR.own.lt h (by simpa using hg)⟩
def bkK : Kd BkR BkD := ⟨BkR.D, fun w b => OwnPs w b.v b.ps, fun b => fpPs b.v b.ps, fun h hb => OwnPs.block h hb, fun h g hg => OwnPs.lt h g hg⟩
/-- New pages: what they say is told; all their blocks of memory are from B up, none twice. -/
structure NewPs (w : World) (B : Nat) (v : Value) (ds : List PgD) (ps : List PgR) : Prop where
  D : ps.map PgR.D = ds
  own : OwnPs w v ps
  new : ∀ g ∈ fpPs v ps, B ≤ g
  nd : (fpPs v ps).Nodup
structure NewBs (w : World) (B : Nat) (v : Value) (ds : List BkD) (bs : List BkR) : Prop where
  D : bs.map BkR.D = ds
  own : OwnBs w v bs
  new : ∀ g ∈ fpBs v bs, B ≤ g
  nd : (fpBs v bs).Nodup
theorem NewPs.keep {w w' : World} {B : Nat} {v : Value} {ds : List PgD} {ps : List PgR} (h : NewPs w B v ds ps) (hb : Below w.heap.size w w') : NewPs w' B v ds ps := ⟨h.D, h.own.keep hb, h.new, h.nd⟩
theorem NewBs.keep {w w' : World} {B : Nat} {v : Value} {ds : List BkD} {bs : List BkR} (h : NewBs w B v ds bs) (hb : Below w.heap.size w w') : NewBs w' B v ds bs := ⟨h.D, h.own.keep hb, h.new, h.nd⟩
theorem NewBs.svs {w w' : World} {B : Nat} {v : Value} {ds : List BkD} {bs : List BkR} {F : List Nat} (h : NewBs w B v ds bs) (k : Sv F w w') (hd : ∀ g ∈ fpBs v bs, g ∉ F) : NewBs w' B v ds bs := ⟨h.D, h.own.svs k hd, h.new, h.nd⟩
theorem NewPs.len {w : World} {B : Nat} {v : Value} {ds : List PgD} {ps : List PgR} (h : NewPs w B v ds ps) : ps.length = ds.length := by rw [← h.D]; simp
theorem NewBs.len {w : World} {B : Nat} {v : Value} {ds : List BkD} {ps : List BkR} (h : NewBs w B v ds ps) : ps.length = ds.length := by rw [← h.D]; simp
theorem NewPs.wider {w : World} {B B' : Nat} {v : Value} {ds : List PgD} {ps : List PgR} (h : NewPs w B v ds ps) (hB : B' ≤ B) : NewPs w B' v ds ps := ⟨h.D, h.own, fun g hg => Nat.le_trans hB (h.new g hg), h.nd⟩
theorem NewBs.wider {w : World} {B B' : Nat} {v : Value} {ds : List BkD} {ps : List BkR} (h : NewBs w B v ds ps) (hB : B' ≤ B) : NewBs w B' v ds ps := ⟨h.D, h.own, fun g hg => Nat.le_trans hB (h.new g hg), h.nd⟩
theorem Inn.newPs {w : World} {H B : Nat} {v : Value} {ds : List PgD} {ps : List PgR} (h : Inn pgK w H ds ps) (ho : OwnE pgE 74 w v ps.length ps) (hB : B ≤ H) (hv : ∀ g, v.ownBlock = some g → B ≤ g ∧ g ∉ pgK.fps ps) : NewPs w B v ds ps := by
  refine ⟨h.D, ⟨ho, h.own⟩, fun g hg => ?_, ?_⟩
  · rcases List.mem_append.1 hg with h1 | h1
    · exact (hv g (by simpa using h1)).1
    · exact Nat.le_trans hB (h.new g h1)
  · refine List.nodup_append.2 ⟨by cases v.ownBlock <;> simp, h.nd, fun a ha b hb e => ?_⟩
    subst e
    exact (hv a (by simpa using ha)).2 hb
theorem Inn.newBs {w : World} {H B : Nat} {v : Value} {ds : List BkD} {ps : List BkR} (h : Inn bkK w H ds ps) (ho : OwnE bkE 39 w v ps.length ps) (hB : B ≤ H) (hv : ∀ g, v.ownBlock = some g → B ≤ g ∧ g ∉ bkK.fps ps) : NewBs w B v ds ps := by
  refine ⟨h.D, ⟨ho, h.own⟩, fun g hg => ?_, ?_⟩
  · rcases List.mem_append.1 hg with h1 | h1
    · exact (hv g (by simpa using h1)).1
    · exact Nat.le_trans hB (h.new g h1)
  · refine List.nodup_append.2 ⟨by cases v.ownBlock <;> simp, h.nd, fun a ha b hb e => ?_⟩
    subst e
    exact (hv a (by simpa using ha)).2 hb
theorem Own.pg {w : World} {g n c : Nat} {zs : List Int} (u : Bool) (h : Own w g n c zs) : PgR.own w ⟨u, some ⟨g, 0, none⟩, c, zs⟩ := by
  have hl := h.len
  subst hl
  refine ⟨OwnV.rowB (B := 0) (Own.toV h (Nat.zero_le _)), ?_⟩
  show zs.length ≤ c
  rcases h.2 with ⟨h1, h2⟩ | ⟨g', c', cur, h1, _, _, h2, _⟩
  · simp at h1
  · simp only [Value.slice.injEq] at h1
    omega
theorem set_set_at {α : Type} (l : List α) (i : Nat) (x y : α) : (l.set i x).set i y = l.set i y := by simp
theorem NewPs.set_below {W : World} {B j i : Nat} {v u : Value} {ds : List PgD} {qs : List PgR} (h : NewPs W B v ds qs) (hj : j < B) : NewPs (W.setCell ⟨j, i, none⟩ u) B v ds qs := ⟨h.D, h.own.block fun g hg => Below.heap_setCell _ _ _ _ (by have := h.new g hg; show g ≠ j; omega), h.new, h.nd⟩
theorem NewBs.set_below {W : World} {B j i : Nat} {v u : Value} {ds : List BkD} {qs : List BkR} (h : NewBs W B v ds qs) (hj : j < B) : NewBs (W.setCell ⟨j, i, none⟩ u) B v ds qs := ⟨h.D, h.own.block fun g hg => Below.heap_setCell _ _ _ _ (by have := h.new g hg; show g ≠ j; omega), h.new, h.nd⟩
theorem NewBs.rd {w : World} {B n c : Nat} {a : Option Addr} {ds : List BkD} {bs : List BkR} (h : NewBs w B (.slice a n c) ds bs) : RdBs w a bs := h.own.rd
end

section
open Go.RowKit
/-- A chip that can be read. -/
structure CR (w : World) (a : Option Addr) (n : Nat) (bs : List BkR) : Prop where
  len : bs.length = n
  tot : totB (bs.map BkR.D) ≤ 1048576
  rd : RdBs w a bs
theorem CR.keep {w w' : World} {a : Option Addr} {n : Nat} {bs : List BkR} (h : CR w a n bs) (hb : Below w.heap.size w w') : CR w' a n bs := ⟨h.len, h.tot, h.rd.keep hb⟩
theorem CR.n {w : World} {a : Option Addr} {n : Nat} {bs : List BkR} (h : CR w a n bs) : n ≤ 1048576 := by
  have := totB_len (bs.map BkR.D)
  have h1 := h.tot
  have h2 := h.len
  simp at this
  omega
theorem CR.some {w : World} {a : Option Addr} {n k : Nat} {bs : List BkR} (h : CR w a n bs) (hk : k < n) : ∃ b off r, a = some ⟨b, off, none⟩ ∧ b < w.heap.size ∧ bs[k]? = .some r ∧ ThreeB w b (off + k * 3) r ∧ RdPs w r.a r.ps ∧ totP (r.ps.map PgR.D) ≤ 1048576 := by
  have hl := h.len
  have hrk : bs[k]? = .some bs[k] := List.getElem?_eq_getElem (by omega)
  obtain ⟨b, off, e, hlt, hc⟩ := h.rd.lt (by intro h0; subst h0; simp at hl; omega)
  have := totB_at hrk
  have h3 := h.tot
  exact ⟨b, off, bs[k], e, hlt, hrk, (hc k _ hrk).1, (hc k _ hrk).2, by omega⟩
/-- How many pages are written. -/
def nextP (ps : List PgD) : Nat := (ps.filter PgD.used).length
theorem nextP_snoc (ps : List PgD) (p : PgD) : nextP (ps ++ [p]) = nextP ps + (if p.used then 1 else 0) := by
  unfold nextP
  rw [List.filter_append]
  cases h : p.used <;> simp [h]
theorem nextP_take {ps : List PgR} {k : Nat} {p : PgR} (h : ps[k]? = some p) : nextP ((ps.take (k + 1)).map PgR.D) = nextP ((ps.take k).map PgR.D) + (if p.used then 1 else 0) := by
  rw [List.take_add_one, h]
  simp only [Option.toList_some, List.map_append, List.map_cons, List.map_nil]
  rw [nextP_snoc]
  rfl
theorem nextP_le (ps : List PgD) : nextP ps ≤ ps.length := List.length_filter_le _ _
set_option maxRecDepth 100000 in
set_option maxHeartbeats 4000000 in
theorem l10NextS (a : Option Addr) (n cap : Nat) (wear : Int) (bad : Bool) (ps : List PgR) (w : World) (hn : ps.length = n) (hs : totP (ps.map PgR.D) ≤ 1048576) (hr : RdPs w a ps) :
    Calls Try.prog 25 #[.agg #[.slice a n cap, .int .i64 wear, .bool bad]] w fun e w' => e = .returned (.int .i64 (nextP (ps.map PgR.D) : Nat)) ∧ Below w.heap.size w w' := by
  have B0 : Below w.heap.size w (w.alloc (.cells #[.slice a n cap, .int .i64 wear, .bool bad] 39)) := (Below.refl _ w).alloc (Nat.le_refl _) _
  have z0 := Blk.new w 39 #[.slice a n cap, .int .i64 wear, .bool bad]
  have HT : Hid (RdPs (w.alloc (.cells #[.slice a n cap, .int .i64 wear, .bool bad] 39)) a ps) := hr.keep B0
  have HB : Hid _ := B0
  have hl := totP_len (ps.map PgR.D)
  have hn1 : n ≤ 1048576 := by simp at hl; omega
  have hln : Hid (ps.length = n) := hn
  clear hr B0 hs hl hn
  obtain ⟨H, hH⟩ : ∃ H, w.heap.size = H := ⟨_, rfl⟩
  rw [hH] at z0
  go_enter Try.func25, Try.ntmps25
  go_wp2
  obtain ⟨W0, hW0⟩ : ∃ W, w.alloc (.cells #[.slice a n cap, .int .i64 wear, .bool bad] 39) = W := ⟨_, rfl⟩
  rw [hW0] at z0 HB HT ⊢
  clear hW0
  try rw [hH]
  go_loopw [3, 4] (fun c i wr => ∃ (k : Nat) (m : Nat), k ≤ n ∧ i = .int .i64 k ∧ c = .int .i64 m ∧ m ≤ k ∧ Hid (nextP ((ps.take k).map PgR.D) = m) ∧ wr = W0) (fun _ i _ => n - (intOf i).toNat)
  case atStart => exact ⟨0, 0, Nat.zero_le _, rfl, rfl, Nat.le_refl _, rfl, rfl⟩
  case round =>
    obtain ⟨k, m, hk, rfl, rfl, hmk, hm, hw⟩ := hrel
    subst hw
    have t0 := z0.cell 0
    simp at t0
    by_cases hkn : k < n
    · have hki : (k : Int) < (n : Int) := by omega
      obtain ⟨r, hrk⟩ : ∃ r, ps[k]? = some r := ⟨_, List.getElem?_eq_getElem (by rw [hln.out]; exact hkn)⟩
      obtain ⟨b, off, rfl, hlt, hc⟩ := RdPs.lt HT.out (by intro h; rw [h] at hrk; simp at hrk)
      obtain ⟨⟨x0, x1⟩, _⟩ := hc k _ hrk
      have hnx := nextP_take hrk
      have hmm := hm.out
      cases hu : r.used
      · rw [hu] at x0 hnx
        have HN : Hid (nextP ((ps.take (k + 1)).map PgR.D) = m) := by show _ = _; rw [hnx, hmm]; rfl
        clear hnx hmm hrk x1 hu hc
        go_wp2
        go_roundw
        case rel => exact ⟨k + 1, m, by omega, by go_num, rfl, by omega, HN, trivial⟩
        case measure => simp [intOf]; omega
      · rw [hu] at x0 hnx
        have HN : Hid (nextP ((ps.take (k + 1)).map PgR.D) = m + 1) := by show _ = _; rw [hnx, hmm]; rfl
        clear hnx hmm hrk x1 hu hc
        go_wp2
        go_roundw
        case rel => exact ⟨k + 1, m + 1, by omega, by go_num, by go_num, by omega, HN, trivial⟩
        case measure => simp [intOf]; omega
    · have hki : ¬ (k : Int) < (n : Int) := by omega
      go_wp2
      go_ret
      have := hm.out
      rw [List.take_of_length_le (by rw [hln.out]; omega)] at this
      rw [← hH]
      exact ⟨by rw [this]; rfl, HB.out⟩
set_option maxRecDepth 100000 in
set_option maxHeartbeats 4000000 in
theorem writtenI (a : Option Addr) (n cap : Nat) (ps : List PgR) (w : World) (hn : ps.length = n) (hs : totP (ps.map PgR.D) ≤ 1048576) (hr : RdPs w a ps) :
    Calls Try.prog 27 #[.slice a n cap] w fun e w' => e = .returned (.int .i64 (nextP (ps.map PgR.D) : Nat)) ∧ Below w.heap.size w w' := by
  have HT : Hid (RdPs w a ps) := hr
  have hl := totP_len (ps.map PgR.D)
  have hn1 : n ≤ 1048576 := by simp at hl; omega
  have hln : Hid (ps.length = n) := hn
  clear hr hs hl hn
  go_enter Try.func27, Try.ntmps27
  go_wp2
  go_loopw [3, 8] (fun c i wr => ∃ (k : Nat) (m : Nat), k ≤ n ∧ i = .int .i64 k ∧ c = .int .i64 m ∧ m ≤ k ∧ Hid (nextP ((ps.take k).map PgR.D) = m) ∧ Hid (Below w.heap.size w wr)) (fun _ i _ => n - (intOf i).toNat)
  case atStart => exact ⟨0, 0, Nat.zero_le _, rfl, rfl, Nat.le_refl _, rfl, Below.refl _ _⟩
  case round =>
    obtain ⟨k, m, hk, rfl, rfl, hmk, hm, hB⟩ := hrel
    by_cases hkn : k < n
    · have hki : (k : Int) < (n : Int) := by omega
      obtain ⟨r, hrk⟩ : ∃ r, ps[k]? = some r := ⟨_, List.getElem?_eq_getElem (by rw [hln.out]; exact hkn)⟩
      obtain ⟨b, off, rfl, hlt, hc⟩ := RdPs.lt (HT.out.keep hB.out) (by intro h; rw [h] at hrk; simp at hrk)
      obtain ⟨⟨x0, x1⟩, _⟩ := hc k _ hrk
      have hnx := nextP_take hrk
      have hmm := hm.out
      obtain ⟨n1, hn1⟩ : ∃ n1, r.zs.length = n1 := ⟨_, rfl⟩
      rw [hn1] at x1
      have hB' : Hid (∀ o : Obj, Below w.heap.size w (wr.alloc o)) := fun o => hB.out.alloc hB.out.size o
      cases hu : r.used
      · rw [hu] at x0 hnx
        have HN : Hid (nextP ((ps.take (k + 1)).map PgR.D) = m) := by show _ = _; rw [hnx, hmm]; rfl
        clear hnx hmm hrk hu hc hn1
        go_wp2
        go_roundw
        case rel => exact ⟨k + 1, m, by omega, by go_num, rfl, by omega, HN, hB'.out _⟩
        case measure => simp [intOf]; omega
      · rw [hu] at x0 hnx
        have HN : Hid (nextP ((ps.take (k + 1)).map PgR.D) = m + 1) := by show _ = _; rw [hnx, hmm]; rfl
        clear hnx hmm hrk hu hc hn1
        go_wp2
        go_roundw
        case rel => exact ⟨k + 1, m + 1, by omega, by go_num, by go_num, by omega, HN, hB'.out _⟩
        case measure => simp [intOf]; omega
    · have hki : ¬ (k : Int) < (n : Int) := by omega
      go_wp2
      go_ret
      have := hm.out
      rw [List.take_of_length_le (by rw [hln.out]; omega)] at this
      exact ⟨by rw [this]; rfl, hB.out⟩
/-- What NextPage answers. -/
def nextD (ds : List BkD) (x : Int) : Int := if 0 ≤ x then (match ds[x.toNat]? with | some b => (nextP b.ps : Nat) | none => -1) else -1
theorem nextD_in {bs : List BkR} {k : Nat} {r : BkR} (h : bs[k]? = some r) : nextD (bs.map BkR.D) (k : Int) = (nextP (r.ps.map PgR.D) : Nat) := by
  unfold nextD
  rw [if_pos (by omega)]
  simp [h, BkR.D]
theorem nextD_out {ds : List BkD} {x : Int} (h : ¬ (0 ≤ x ∧ x < (ds.length : Int))) : nextD ds x = -1 := by
  unfold nextD
  split
  · rw [List.getElem?_eq_none (by omega)]
  · rfl
set_option maxRecDepth 100000 in
set_option maxHeartbeats 4000000 in
theorem nextS (a : Option Addr) (n cap : Nat) (bs : List BkR) (x : Int) (w : World) (ht : CR w a n bs) :
    Calls Try.prog 79 #[.agg #[.slice a n cap], .int .i64 x] w fun e w' => e = .returned (.int .i64 (nextD (bs.map BkR.D) x)) ∧ Below w.heap.size w w' := by
  have B0 : Below w.heap.size w (w.alloc (.cells #[.slice a n cap] 26)) := (Below.refl _ w).alloc (Nat.le_refl _) _
  have hn1 := ht.n
  by_cases hx : 0 ≤ x ∧ x < (n : Int)
  · obtain ⟨k, rfl⟩ : ∃ k : Nat, x = (k : Int) := ⟨x.toNat, by omega⟩
    have hkn : k < n := by omega
    have h1 : ¬ (k : Int) < 0 := by omega
    have h2 : ¬ (n : Int) ≤ (k : Int) := by omega
    have hki : (k : Int) < (n : Int) := by omega
    obtain ⟨b, off, r, rfl, hlt, hrk, x3, hrp, htp⟩ := (ht.keep B0).some hkn
    obtain ⟨x0, x1, x2⟩ := x3
    have hcall := l10NextS r.a r.ps.length r.cap r.wear r.bad r.ps _ rfl htp hrp
    have hnx := nextD_in hrk
    rw [hnx]
    obtain ⟨n1, hn1⟩ : ∃ n1, r.ps.length = n1 := ⟨_, rfl⟩
    rw [hn1] at x0 hcall
    have HB : Hid _ := B0
    clear hnx hrk hn1 ht B0 hrp
    go_enter Try.func79, Try.ntmps79
    go_wp2_with fail
    refine hcall.mono ?_
    rintro e w1 ⟨rfl, hb1⟩
    clear hcall x0 x1 x2
    go_wp2
    go_ret
    exact ⟨rfl, HB.out.trans (hb1.mono HB.out.size)⟩
  · have hnx : nextD (bs.map BkR.D) x = -1 := nextD_out (by simpa [ht.len] using hx)
    rw [hnx]
    by_cases h1 : x < 0
    · go_enter Try.func79, Try.ntmps79
      go_wp2
      go_ret
      exact ⟨rfl, B0⟩
    · have h2 : (n : Int) ≤ x := by omega
      go_enter Try.func79, Try.ntmps79
      go_wp2
      go_ret
      exact ⟨rfl, B0⟩
set_option maxHeartbeats 1600000 in
theorem hasBk (a : Option Addr) (n cap : Nat) (x : Int) (w : World) (_hn : n ≤ 1048576) :
    Calls Try.prog 26 #[.slice a n cap, .int .i64 x] w fun e w' => e = .returned (.bool (decide (0 ≤ x) && decide (x < (n : Int)))) ∧ w' = w := by
  go_enter Try.func26, Try.ntmps26
  by_cases h1 : 0 ≤ x
  · by_cases h2 : x < (n : Int)
    · go_wp2
      go_ret
      exact ⟨by simp [h1, h2], rfl⟩
    · go_wp2
      go_ret
      exact ⟨by simp [h2], rfl⟩
  · go_wp2
    go_ret
    exact ⟨by simp; omega, rfl⟩
set_option maxHeartbeats 1600000 in
theorem hasPg (a : Option Addr) (n cap : Nat) (x : Int) (w : World) (_hn : n ≤ 1048576) :
    Calls Try.prog 62 #[.slice a n cap, .int .i64 x] w fun e w' => e = .returned (.bool (decide (0 ≤ x) && decide (x < (n : Int)))) ∧ w' = w := by
  go_enter Try.func62, Try.ntmps62
  by_cases h1 : 0 ≤ x
  · by_cases h2 : x < (n : Int)
    · go_wp2
      go_ret
      exact ⟨by simp [h1, h2], rfl⟩
    · go_wp2
      go_ret
      exact ⟨by simp [h2], rfl⟩
  · go_wp2
    go_ret
    exact ⟨by simp; omega, rfl⟩
end

section
open Go.RowKit
/-- A fault. -/
structure FtD where
  tm : Int
  kd : Int
  kp : Int
deriving Inhabited
def ftE : El FtD := ⟨3, by omega, fun f => [.int .i64 f.tm, .int .i64 f.kd, .int .i64 f.kp], fun _ => rfl⟩
def RdFa (w : World) (a : Option Addr) (fs : List FtD) : Prop := RdE ftE (fun _ => True) w a fs
theorem RdFa.keep {w w' : World} {a : Option Addr} {fs : List FtD} (h : RdFa w a fs) (hb : Below w.heap.size w w') : RdFa w' a fs := RdE.mono h hb fun _ _ hr => hr
/-- The cells of a fault. -/
structure ThreeF (w : World) (b off : Nat) (r : FtD) : Prop where
  c0 : w.cell? ⟨b, off, none⟩ = some (.int .i64 r.tm)
  c1 : w.cell? ⟨b, off + 1, none⟩ = some (.int .i64 r.kd)
  c2 : w.cell? ⟨b, off + 2, none⟩ = some (.int .i64 r.kp)
theorem ThreeF.keep {w w' : World} {b off B : Nat} {r : FtD} (h : ThreeF w b off r) (hb : Below B w w') (hlt : b < B) : ThreeF w' b off r := ⟨(hb.cell hlt).trans h.c0, (hb.cell hlt).trans h.c1, (hb.cell hlt).trans h.c2⟩
theorem RdFa.lt {w : World} {a : Option Addr} {fs : List FtD} (h : RdFa w a fs) (hz : fs ≠ []) : ∃ b off, a = some ⟨b, off, none⟩ ∧ b < w.heap.size ∧ ∀ i r, fs[i]? = some r → ThreeF w b (off + i * 3) r := by
  obtain ⟨b, off, h1, h2, h3⟩ := RdE.lt h hz
  exact ⟨b, off, h1, h2, fun i p hi => ⟨(h3 i p hi).1 0 (by decide), (h3 i p hi).1 1 (by decide), (h3 i p hi).1 2 (by decide)⟩⟩
/-- Faults that can be read. -/
structure FR (w : World) (a : Option Addr) (m : Nat) (fs : List FtD) : Prop where
  len : fs.length = m
  tot : m ≤ 1048576
  rd : RdFa w a fs
theorem FR.keep {w w' : World} {a : Option Addr} {m : Nat} {fs : List FtD} (h : FR w a m fs) (hb : Below w.heap.size w w') : FR w' a m fs := ⟨h.len, h.tot, h.rd.keep hb⟩
theorem FR.some {w : World} {a : Option Addr} {m k : Nat} {fs : List FtD} (h : FR w a m fs) (hk : k < m) : ∃ b off r, a = some ⟨b, off, none⟩ ∧ b < w.heap.size ∧ fs[k]? = .some r ∧ ThreeF w b (off + k * 3) r := by
  have hl := h.len
  have hrk : fs[k]? = .some fs[k] := List.getElem?_eq_getElem (by omega)
  obtain ⟨b, off, e, hlt, hc⟩ := h.rd.lt (by intro h0; subst h0; simp at hl; omega)
  exact ⟨b, off, fs[k], e, hlt, hrk, hc k _ hrk⟩
/-- Faults of the call's own. -/
def OwnFa (w : World) (v : Value) (m : Nat) (fs : List FtD) : Prop := OwnE ftE 93 w v m fs
theorem OwnFa.rd {w : World} {a : Option Addr} {c n m : Nat} {fs : List FtD} (h : OwnFa w (.slice a n c) m fs) : RdFa w a fs := by
  obtain ⟨a', c', e, r⟩ := OwnE.rd (rd := fun _ => True) h (fun _ _ => trivial)
  simp only [Value.slice.injEq] at e
  rw [e.1]; exact r
def ftZ : FtD := ⟨0, 0, 0⟩
theorem Try.infoFault : (Try.prog.info? 93).map (fun i => (i.zero, i.size, i.bytes)) = some (some (.agg #[.int .i64 0, .int .i64 0, .int .i64 0]), 3, 24) := by kernel_rfl
end
end Go.Proofs.Ytpejfkgbfdkdnaa
