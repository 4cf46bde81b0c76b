/-
  A drawn inode while it is drawn: the cursor, its box, its lists; when what was drawn is right.
-/
import Derived.Test.YtnllhpeddoaehaaDrawS
import Derived.Test.YtnllhpeddoaehaaKept
import Derived.Test.YtnllhpeddoaehaaInoEnc
namespace Go.Proofs.Ytnllhpeddoaehaa
open Go.RowKit

theorem Src.own {w w' : World} {gc n cap : Nat} {a : Option Addr} {zs : List Int} {r : Option Nat} (h : Src w gc n cap a zs) (hg : w.grownBy w' r) (hr : ∀ g, r = some g → gc < g) : Src w' gc n cap a zs := by
  cases r with
  | none => exact h.keep ⟨hg.os, hg.tape, hg.output, hg.size, fun k hk => hg.block k hk (by simp)⟩
  | some g => exact h.other hg (hr g rfl)
theorem gr_own {w wr w' : World} {g0 : Nat} {r : Option Nat} (h : w.grownBy wr (some g0)) (hr : ∀ g, r = some g → w.heap.size ≤ g) (k : wr.grownBy w' r) : w.grownBy w' (some g0) := by
  refine ⟨k.os.trans h.os, k.tape.trans h.tape, k.output.trans h.output, Nat.le_trans h.size k.size, fun i hi hne => ?_⟩
  rw [k.block i (by have := h.size; omega) (by intro e; have := hr i e.symm; omega), h.block i hi hne]
/-- The state of a draw: the cursor gc; the answer's box, the inode's X, the names' N; its lists. -/
structure DI (w W : World) (gc sn scap : Nat) (sa : Option Addr) (zs : List Int) (X N : Nat) (nm : Array Value) (xs : Array Value) (v1 : Value) (dz : List Int) (v2 : Value) (es : List (ByteArray × Int)) (v3 : Value) (ats : List (ByteArray × ByteArray)) : Prop where
  src : Src W gc sn scap sa zs
  gr : w.grownBy W (some gc)
  hgc : gc < w.heap.size
  res : Blk W w.heap.size 27 #[.int .i64 0, .int .i64 0, .int .i64 0, .slice none 0 0, .slice none 0 0, .slice none 0 0]
  x : Blk W X 27 xs
  hX : w.heap.size < X
  nm : Blk W N 9 nm
  d : W.ownsRow w.heap.size 5 1 v1 dz.length (dz.map (Value.int .u8))
  e : W.ownsRow w.heap.size 35 2 v2 es.length (pv (eP es))
  t : W.ownsRow w.heap.size 77 2 v3 ats.length (pv (aP ats))
section
variable {w W W' : World} {gc sn scap : Nat} {sa : Option Addr} {zs : List Int} {X N : Nat} {nm xs : Array Value} {v1 : Value} {dz : List Int} {v2 : Value} {es : List (ByteArray × Int)} {v3 : Value} {ats : List (ByteArray × ByteArray)}
theorem DI.kp (h : DI w W gc sn scap sa zs X N nm xs v1 dz v2 es v3 ats) (k : KpT W W' [27, 5, 35, 77, 9]) (hs : Src W' gc sn scap sa zs) (hg : w.grownBy W' (some gc)) : DI w W' gc sn scap sa zs X N nm xs v1 dz v2 es v3 ats :=
  ⟨hs, hg, h.hgc, h.res.kp k (by decide), h.x.kp k (by decide), h.hX, h.nm.kp k (by decide), row_kp h.d k (by decide), row_kp h.e k (by decide), row_kp h.t k (by decide)⟩
theorem DI.cur (h : DI w W gc sn scap sa zs X N nm xs v1 dz v2 es v3 ats) (hs : Src W' gc sn scap sa zs) (hg : W.grownBy W' (some gc)) : DI w W' gc sn scap sa zs X N nm xs v1 dz v2 es v3 ats := by
  obtain ⟨i, hh, _, hb⟩ := h.src.cur
  exact h.kp (KpT.grown (t := 118) hg hb (by decide)) hs (h.gr.trans hg)
theorem DI.al (h : DI w W gc sn scap sa zs X N nm xs v1 dz v2 es v3 ats) (o : Obj) : DI w (W.alloc o) gc sn scap sa zs X N nm xs v1 dz v2 es v3 ats :=
  h.kp (KpT.below ((Below.refl _ W).alloc (Nat.le_refl _) o) _) (h.src.alloc o) (h.gr.trans (World.grownBy_alloc W o (some gc)))
theorem DI.dr (h : DI w W gc sn scap sa zs X N nm xs v1 dz v2 es v3 ats) : DI w W.drew gc sn scap sa zs X N nm xs v1 dz v2 es v3 ats :=
  h.kp (KpT.below (Below.refl _ W).drew _) h.src.drew ⟨h.gr.os, h.gr.tape, h.gr.output, h.gr.size, h.gr.block⟩
theorem DI.setX (h : DI w W gc sn scap sa zs X N nm xs v1 dz v2 es v3 ats) (j : Nat) (v : Value) : DI w (W.setCell ⟨X, j, none⟩ v) gc sn scap sa zs X N nm (xs.setIfInBounds j v) v1 dz v2 es v3 ats := by
  have k : KpT W (W.setCell ⟨X, j, none⟩ v) [5, 35, 77, 9] := KpT.grown (gr_setC W X j v) h.x (by decide)
  have hx := h.hX
  have hc := h.hgc
  exact ⟨h.src.other (gr_setC W X j v) (by omega), gr_own h.gr (fun g hg => by simp at hg; omega) (gr_setC W X j v), h.hgc, h.res.other (Nat.ne_of_lt h.hX) j v, h.x.set j v, h.hX, h.nm.kp k (by decide), row_kp h.d k (by decide), row_kp h.e k (by decide), row_kp h.t k (by decide)⟩
theorem DI.appE (h : DI w W gc sn scap sa zs X N nm xs v1 dz v2 es v3 ats) (o : Obj) (hg : (W.alloc o).grownBy W' v2.ownBlock) (v2' : Value) (es' : List (ByteArray × Int)) (ho : W'.ownsRow w.heap.size 35 2 v2' es'.length (pv (eP es'))) : DI w W' gc sn scap sa zs X N nm xs v1 dz v2' es' v3 ats := by
  have ha := h.al o
  have hc := h.hgc
  have hv : ∀ g, v2.ownBlock = some g → w.heap.size ≤ g := fun g hk => (World.ownsRow.lt ha.e g hk).1
  have k : KpT (W.alloc o) W' [27, 5, 77, 9] := KpT.row hg ha.e (by decide)
  exact ⟨ha.src.own hg (fun g hk => by have := hv g hk; omega), gr_own ha.gr hv hg, h.hgc, ha.res.kp k (by decide), ha.x.kp k (by decide), h.hX, ha.nm.kp k (by decide), row_kp ha.d k (by decide), ho, row_kp ha.t k (by decide)⟩
theorem DI.appA (h : DI w W gc sn scap sa zs X N nm xs v1 dz v2 es v3 ats) (o : Obj) (hg : (W.alloc o).grownBy W' v3.ownBlock) (v3' : Value) (ats' : List (ByteArray × ByteArray)) (ho : W'.ownsRow w.heap.size 77 2 v3' ats'.length (pv (aP ats'))) : DI w W' gc sn scap sa zs X N nm xs v1 dz v2 es v3' ats' := by
  have ha := h.al o
  have hc := h.hgc
  have hv : ∀ g, v3.ownBlock = some g → w.heap.size ≤ g := fun g hk => (World.ownsRow.lt ha.t g hk).1
  have k : KpT (W.alloc o) W' [27, 5, 35, 9] := KpT.row hg ha.t (by decide)
  exact ⟨ha.src.own hg (fun g hk => by have := hv g hk; omega), gr_own ha.gr hv hg, h.hgc, ha.res.kp k (by decide), ha.x.kp k (by decide), h.hX, ha.nm.kp k (by decide), row_kp ha.d k (by decide), row_kp ha.e k (by decide), ho⟩
theorem DI.appD (h : DI w W gc sn scap sa zs X N nm xs v1 dz v2 es v3 ats) (o : Obj) (hg : (W.alloc o).grownBy W' v1.ownBlock) (v1' : Value) (dz' : List Int) (ho : W'.ownsRow w.heap.size 5 1 v1' dz'.length (dz'.map (Value.int .u8))) : DI w W' gc sn scap sa zs X N nm xs v1' dz' v2 es v3 ats := by
  have ha := h.al o
  have hc := h.hgc
  have hv : ∀ g, v1.ownBlock = some g → w.heap.size ≤ g := fun g hk => (World.ownsRow.lt ha.d g hk).1
  have k : KpT (W.alloc o) W' [27, 35, 77, 9] := KpT.row hg ha.d (by decide)
  exact ⟨ha.src.own hg (fun g hk => by have := hv g hk; omega), gr_own ha.gr hv hg, h.hgc, ha.res.kp k (by decide), ha.x.kp k (by decide), h.hX, ha.nm.kp k (by decide), ho, row_kp ha.e k (by decide), row_kp ha.t k (by decide)⟩
end
/-- Another list of bytes in the place of the data. -/
theorem DI.newD {w W : World} {gc sn scap : Nat} {sa : Option Addr} {zs : List Int} {X N : Nat} {nm xs : Array Value} {v1 : Value} {dz : List Int} {v2 : Value} {es : List (ByteArray × Int)} {v3 : Value} {ats : List (ByteArray × ByteArray)} (h : DI w W gc sn scap sa zs X N nm xs v1 dz v2 es v3 ats) (v1' : Value) (dz' : List Int) (ho : W.ownsRow w.heap.size 5 1 v1' dz'.length (dz'.map (Value.int .u8))) : DI w W gc sn scap sa zs X N nm xs v1' dz' v2 es v3 ats :=
  ⟨h.src, h.gr, h.hgc, h.res, h.x, h.hX, h.nm, ho, h.e, h.t⟩
theorem own_raise {B : Nat} {w : World} {g n c : Nat} {zs : List Int} (h : Own w g n c zs) (hg : B ≤ g) : w.ownsRow B 5 1 (.slice (some ⟨g, 0, none⟩) n c) n (zs.map (Value.int .u8)) := by
  refine ⟨h.1, ?_⟩
  rcases h.2 with ⟨h', _⟩ | ⟨g', c', cur, h', _, rest⟩
  · simp at h'
  · simp at h'
    obtain ⟨rfl, rfl⟩ := h'
    exact .inr ⟨g, c, cur, rfl, hg, rest⟩

/-! ### when what was drawn is right -/
theorem getD_app_left {α : Type} (l : List α) (q d : α) (i : Nat) (h : i < l.length) : (l ++ [q]).getD i d = l.getD i d := by
  simp [List.getElem?_append_left h]
theorem getD_app_end {α : Type} (l : List α) (q d : α) : (l ++ [q]).getD l.length d = q := by simp
theorem getD_mem {α : Type} (l : List α) (d : α) (i : Nat) (h : i < l.length) : l.getD i d ∈ l := by
  simp [h]
theorem entsOk_snoc {es : List (ByteArray × Int)} {q : ByteArray × Int} (h : entsOk es = true) (hl : es.length < 10) (hn : nameOk q.1.data.toList = true) (h1 : 2 ≤ q.2) (h2 : q.2 ≤ 1000) (hb : ∀ p ∈ es, Op.bytesLess p.1.toList q.1.toList = true) : entsOk (es ++ [q]) = true := by
  unfold entsOk at h ⊢
  simp only [Bool.and_eq_true, decide_eq_true_eq, List.all_eq_true, List.mem_range, List.length_append, List.length_cons, List.length_nil] at h ⊢
  refine ⟨fun i hi => ?_, by omega⟩
  by_cases he : i < es.length
  · have := h.1 i he
    unfold entAt at this ⊢
    rw [getD_app_left _ _ _ _ he, getD_app_left _ _ _ _ (by omega)]
    exact this
  · obtain rfl : i = es.length := by omega
    unfold entAt
    rw [getD_app_end]
    simp only [Bool.and_eq_true, Bool.or_eq_true, decide_eq_true_eq]
    refine ⟨⟨hn, h1, h2⟩, ?_⟩
    by_cases h0 : es.length = 0
    · exact .inl h0
    · right
      rw [getD_app_left _ _ _ _ (by omega)]
      exact hb _ (getD_mem _ _ _ (by omega))
theorem attsOk_snoc {es : List (ByteArray × ByteArray)} {q : ByteArray × ByteArray} (h : attsOk es = true) (hl : es.length < 4) (hn : nameOk q.1.data.toList = true) (h1 : q.2.size ≤ 16) (hb : ∀ p ∈ es, Op.bytesLess p.1.toList q.1.toList = true) : attsOk (es ++ [q]) = true := by
  unfold attsOk at h ⊢
  simp only [Bool.and_eq_true, decide_eq_true_eq, List.all_eq_true, List.mem_range, List.length_append, List.length_cons, List.length_nil] at h ⊢
  refine ⟨fun i hi => ?_, by omega⟩
  by_cases he : i < es.length
  · have := h.1 i he
    unfold attAt at this ⊢
    rw [getD_app_left _ _ _ _ he, getD_app_left _ _ _ _ (by omega)]
    exact this
  · obtain rfl : i = es.length := by omega
    unfold attAt
    rw [getD_app_end]
    simp only [Bool.and_eq_true, Bool.or_eq_true, decide_eq_true_eq]
    refine ⟨⟨hn, h1⟩, ?_⟩
    by_cases h0 : es.length = 0
    · exact .inl h0
    · right
      rw [getD_app_left _ _ _ _ (by omega)]
      exact hb _ (getD_mem _ _ _ (by omega))
/-- The names that are drawn. -/
def nms : List ByteArray := [⟨#[97]⟩, ⟨#[98]⟩, ⟨#[99]⟩, ⟨#[100, 46, 116, 120, 116]⟩]
theorem nms_ok (k : Nat) (h : k < 4) : nameOk (nms.getD k ⟨#[]⟩).data.toList = true ∧ ∀ j, j < k → Op.bytesLess (nms.getD j ⟨#[]⟩).toList (nms.getD k ⟨#[]⟩).toList = true := by
  have hall : ∀ k, k < 4 → nameOk (nms.getD k ⟨#[]⟩).data.toList = true ∧ ∀ j, j < 4 → j < k → Op.bytesLess (nms.getD j ⟨#[]⟩).data.toList (nms.getD k ⟨#[]⟩).data.toList = true := by decide
  refine ⟨(hall k h).1, fun j hj => ?_⟩
  rw [Lib.toList_data, Lib.toList_data]
  exact (hall k h).2 j (by omega) hj
/-- The entries behind k rounds. -/
structure EsI (k : Nat) (es : List (ByteArray × Int)) : Prop where
  ok : entsOk es = true
  len : es.length ≤ k
  nm : ∀ q ∈ es, ∃ j, j < k ∧ q.1 = nms.getD j ⟨#[]⟩
theorem EsI.nil : EsI 0 [] := ⟨by decide, by simp, fun q hq => by simp at hq⟩
theorem EsI.skip {k : Nat} {es : List (ByteArray × Int)} (h : EsI k es) : EsI (k + 1) es := ⟨h.ok, by have := h.len; omega, fun q hq => by obtain ⟨j, hj, e⟩ := h.nm q hq; exact ⟨j, by omega, e⟩⟩
theorem EsI.put {k : Nat} {es : List (ByteArray × Int)} (h : EsI k es) (hk : k < 4) (y : Int) (h1 : 2 ≤ y) (h2 : y ≤ 1000) : EsI (k + 1) (es ++ [(nms.getD k ⟨#[]⟩, y)]) := by
  obtain ⟨n1, n2⟩ := nms_ok k hk
  have hl := h.len
  refine ⟨entsOk_snoc h.ok (by omega) n1 h1 h2 (fun p hp => ?_), by simp; omega, fun q hq => ?_⟩
  · obtain ⟨j, hj, e⟩ := h.nm p hp
    rw [e]
    exact n2 j hj
  · rcases List.mem_append.1 hq with hq | hq
    · obtain ⟨j, hj, e⟩ := h.nm q hq
      exact ⟨j, by omega, e⟩
    · rw [List.mem_singleton] at hq
      exact ⟨k, by omega, by rw [hq]⟩
/-- The attributes behind k rounds. -/
structure AsI (k : Nat) (es : List (ByteArray × ByteArray)) : Prop where
  ok : attsOk es = true
  len : es.length ≤ k
  nm : ∀ q ∈ es, ∃ j, j < k ∧ q.1 = nms.getD j ⟨#[]⟩
theorem AsI.nil : AsI 0 [] := ⟨by decide, by simp, fun q hq => by simp at hq⟩
theorem AsI.skip {k : Nat} {es : List (ByteArray × ByteArray)} (h : AsI k es) : AsI (k + 1) es := ⟨h.ok, by have := h.len; omega, fun q hq => by obtain ⟨j, hj, e⟩ := h.nm q hq; exact ⟨j, by omega, e⟩⟩
theorem AsI.put {k : Nat} {es : List (ByteArray × ByteArray)} (h : AsI k es) (hk : k < 4) (y : ByteArray) (h1 : y.size ≤ 16) : AsI (k + 1) (es ++ [(nms.getD k ⟨#[]⟩, y)]) := by
  obtain ⟨n1, n2⟩ := nms_ok k hk
  have hl := h.len
  refine ⟨attsOk_snoc h.ok (by omega) n1 h1 (fun p hp => ?_), by simp; omega, fun q hq => ?_⟩
  · obtain ⟨j, hj, e⟩ := h.nm p hp
    rw [e]
    exact n2 j hj
  · rcases List.mem_append.1 hq with hq | hq
    · obtain ⟨j, hj, e⟩ := h.nm q hq
      exact ⟨j, by omega, e⟩
    · rw [List.mem_singleton] at hq
      exact ⟨k, by omega, by rw [hq]⟩
/-- What was drawn is right. -/
theorem drawn_ok {x y z : Nat} {dz : List Int} {es : List (ByteArray × Int)} {ats : List (ByteArray × ByteArray)} (hx : x < 6) (hz : z < 2) (ha : AsI 2 ats) (hc : (y = 0 ∧ dz.length ≤ 100 ∧ es = []) ∨ (y = 1 ∧ z = 0 ∧ dz = [] ∧ EsI 4 es)) : inoOk ⟨2 + (x : Int), 1 + (y : Int), 1 + (z : Int), dz, es, ats⟩ = true := by
  have h1 : (decide (1 ≤ 2 + (x : Int)) && decide (2 + (x : Int) ≤ 1000)) = true := by simp; omega
  have h2 : (decide (0 ≤ 1 + (z : Int)) && decide (1 + (z : Int) ≤ 1000)) = true := by simp; omega
  have h3 : ((1 + (z : Int) == 0) == (2 + (x : Int) == 1)) = true := by
    have e1 : (1 + (z : Int) == 0) = false := by simp; omega
    have e2 : (2 + (x : Int) == 1) = false := by simp; omega
    rw [e1, e2]
    rfl
  unfold inoOk kindR
  dsimp only
  rw [h1, h2, h3, ha.ok]
  rcases hc with ⟨rfl, hd, rfl⟩ | ⟨rfl, rfl, rfl, he⟩
  · simp [hd, entsOk]
  · simp [he.ok]
end Go.Proofs.Ytnllhpeddoaehaa
