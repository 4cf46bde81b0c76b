/-
  Joined: DrawI, Draw3.
-/
import Derived.Test.YtgcmpimckpnemaaInoOkT
import Derived.Test.YtgcmpimckpnemaaA16T
import Derived.Test.YtgcmpimckpnemaaA3T
import Derived.Laws.StructEq
import Derived.Laws.BytesString
import Derived.Deep.RegionLaw
namespace Go.Proofs.Ytgcmpimckpnemaa
section
open Go.RowKit
theorem Src.own {w w' : World} {gc n cap : Nat} {a : Option Addr} {zs : List Int} {r : Option Nat} (h : Src w gc n cap a zs) (hg : w.grownBy w' r) (hr : ∀ g, r = some g → gc < g) : Src w' gc n cap a zs := by
  cases r with
  | none => exact h.keep ⟨hg.os, hg.tape, hg.output, hg.size, fun k hk => hg.block k hk (by simp)⟩
  | some g => exact h.other hg (hr g rfl)
theorem gr_own {w wr w' : World} {g0 : Nat} {r : Option Nat} (h : w.grownBy wr (some g0)) (hr : ∀ g, r = some g → w.heap.size ≤ g) (k : wr.grownBy w' r) : w.grownBy w' (some g0) := by
  refine ⟨k.os.trans h.os, k.tape.trans h.tape, k.output.trans h.output, Nat.le_trans h.size k.size, fun i hi hne => ?_⟩
  rw [k.block i (by have := h.size; omega) (by intro e; have := hr i e.symm; omega), h.block i hi hne]
/-- The state of a draw: the cursor gc; the answer's box, the inode's X, the names' N; its lists. -/
structure DI (w W : World) (gc sn scap : Nat) (sa : Option Addr) (zs : List Int) (X N : Nat) (nm : Array Value) (xs : Array Value) (v1 : Value) (dz : List Int) (v2 : Value) (es : List (ByteArray × Int)) (v3 : Value) (ats : List (ByteArray × ByteArray)) : Prop where
  src : Src W gc sn scap sa zs
  gr : w.grownBy W (some gc)
  hgc : gc < w.heap.size
  res : Blk W w.heap.size 30 #[.int .i64 0, .int .i64 0, .int .i64 0, .slice none 0 0, .slice none 0 0, .slice none 0 0]
  x : Blk W X 30 xs
  hX : w.heap.size < X
  nm : Blk W N 9 nm
  d : W.ownsRow w.heap.size 5 1 v1 dz.length (dz.map (Value.int .u8))
  e : W.ownsRow w.heap.size 67 2 v2 es.length (pv (eP es))
  t : W.ownsRow w.heap.size 70 2 v3 ats.length (pv (aP ats))
section
variable {w W W' : World} {gc sn scap : Nat} {sa : Option Addr} {zs : List Int} {X N : Nat} {nm xs : Array Value} {v1 : Value} {dz : List Int} {v2 : Value} {es : List (ByteArray × Int)} {v3 : Value} {ats : List (ByteArray × ByteArray)}
theorem DI.kp (h : DI w W gc sn scap sa zs X N nm xs v1 dz v2 es v3 ats) (k : KpT W W' [30, 5, 67, 70, 9]) (hs : Src W' gc sn scap sa zs) (hg : w.grownBy W' (some gc)) : DI w W' gc sn scap sa zs X N nm xs v1 dz v2 es v3 ats :=
  ⟨hs, hg, h.hgc, h.res.kp k (by decide), h.x.kp k (by decide), h.hX, h.nm.kp k (by decide), row_kp h.d k (by decide), row_kp h.e k (by decide), row_kp h.t k (by decide)⟩
theorem DI.cur (h : DI w W gc sn scap sa zs X N nm xs v1 dz v2 es v3 ats) (hs : Src W' gc sn scap sa zs) (hg : W.grownBy W' (some gc)) : DI w W' gc sn scap sa zs X N nm xs v1 dz v2 es v3 ats := by
  obtain ⟨i, hh, _, hb⟩ := h.src.cur
  exact h.kp (KpT.grown (t := 83) hg hb (by decide)) hs (h.gr.trans hg)
theorem DI.al (h : DI w W gc sn scap sa zs X N nm xs v1 dz v2 es v3 ats) (o : Obj) : DI w (W.alloc o) gc sn scap sa zs X N nm xs v1 dz v2 es v3 ats :=
  h.kp (KpT.below ((Below.refl _ W).alloc (Nat.le_refl _) o) _) (h.src.alloc o) (h.gr.trans (World.grownBy_alloc W o (some gc)))
theorem DI.dr (h : DI w W gc sn scap sa zs X N nm xs v1 dz v2 es v3 ats) : DI w W.drew gc sn scap sa zs X N nm xs v1 dz v2 es v3 ats :=
  h.kp (KpT.below (Below.refl _ W).drew _) h.src.drew ⟨h.gr.os, h.gr.tape, h.gr.output, h.gr.size, h.gr.block⟩
theorem DI.setX (h : DI w W gc sn scap sa zs X N nm xs v1 dz v2 es v3 ats) (j : Nat) (v : Value) : DI w (W.setCell ⟨X, j, none⟩ v) gc sn scap sa zs X N nm (xs.setIfInBounds j v) v1 dz v2 es v3 ats := by
  have k : KpT W (W.setCell ⟨X, j, none⟩ v) [5, 67, 70, 9] := KpT.grown (gr_setC W X j v) h.x (by decide)
  have hx := h.hX
  have hc := h.hgc
  exact ⟨h.src.other (gr_setC W X j v) (by omega), gr_own h.gr (fun g hg => by simp at hg; omega) (gr_setC W X j v), h.hgc, h.res.other (Nat.ne_of_lt h.hX) j v, h.x.set j v, h.hX, h.nm.kp k (by decide), row_kp h.d k (by decide), row_kp h.e k (by decide), row_kp h.t k (by decide)⟩
theorem DI.appE (h : DI w W gc sn scap sa zs X N nm xs v1 dz v2 es v3 ats) (o : Obj) (hg : (W.alloc o).grownBy W' v2.ownBlock) (v2' : Value) (es' : List (ByteArray × Int)) (ho : W'.ownsRow w.heap.size 67 2 v2' es'.length (pv (eP es'))) : DI w W' gc sn scap sa zs X N nm xs v1 dz v2' es' v3 ats := by
  have ha := h.al o
  have hc := h.hgc
  have hv : ∀ g, v2.ownBlock = some g → w.heap.size ≤ g := fun g hk => (World.ownsRow.lt ha.e g hk).1
  have k : KpT (W.alloc o) W' [30, 5, 70, 9] := KpT.row hg ha.e (by decide)
  exact ⟨ha.src.own hg (fun g hk => by have := hv g hk; omega), gr_own ha.gr hv hg, h.hgc, ha.res.kp k (by decide), ha.x.kp k (by decide), h.hX, ha.nm.kp k (by decide), row_kp ha.d k (by decide), ho, row_kp ha.t k (by decide)⟩
theorem DI.appA (h : DI w W gc sn scap sa zs X N nm xs v1 dz v2 es v3 ats) (o : Obj) (hg : (W.alloc o).grownBy W' v3.ownBlock) (v3' : Value) (ats' : List (ByteArray × ByteArray)) (ho : W'.ownsRow w.heap.size 70 2 v3' ats'.length (pv (aP ats'))) : DI w W' gc sn scap sa zs X N nm xs v1 dz v2 es v3' ats' := by
  have ha := h.al o
  have hc := h.hgc
  have hv : ∀ g, v3.ownBlock = some g → w.heap.size ≤ g := fun g hk => (World.ownsRow.lt ha.t g hk).1
  have k : KpT (W.alloc o) W' [30, 5, 67, 9] := KpT.row hg ha.t (by decide)
  exact ⟨ha.src.own hg (fun g hk => by have := hv g hk; omega), gr_own ha.gr hv hg, h.hgc, ha.res.kp k (by decide), ha.x.kp k (by decide), h.hX, ha.nm.kp k (by decide), row_kp ha.d k (by decide), row_kp ha.e k (by decide), ho⟩
theorem DI.appD (h : DI w W gc sn scap sa zs X N nm xs v1 dz v2 es v3 ats) (o : Obj) (hg : (W.alloc o).grownBy W' v1.ownBlock) (v1' : Value) (dz' : List Int) (ho : W'.ownsRow w.heap.size 5 1 v1' dz'.length (dz'.map (Value.int .u8))) : DI w W' gc sn scap sa zs X N nm xs v1' dz' v2 es v3 ats := by
  have ha := h.al o
  have hc := h.hgc
  have hv : ∀ g, v1.ownBlock = some g → w.heap.size ≤ g := fun g hk => (World.ownsRow.lt ha.d g hk).1
  have k : KpT (W.alloc o) W' [30, 67, 70, 9] := KpT.row hg ha.d (by decide)
  exact ⟨ha.src.own hg (fun g hk => by have := hv g hk; omega), gr_own ha.gr hv hg, h.hgc, ha.res.kp k (by decide), ha.x.kp k (by decide), h.hX, ha.nm.kp k (by decide), ho, row_kp ha.e k (by decide), row_kp ha.t k (by decide)⟩
end
/-- Another list of bytes in the place of the data. -/
theorem DI.newD {w W : World} {gc sn scap : Nat} {sa : Option Addr} {zs : List Int} {X N : Nat} {nm xs : Array Value} {v1 : Value} {dz : List Int} {v2 : Value} {es : List (ByteArray × Int)} {v3 : Value} {ats : List (ByteArray × ByteArray)} (h : DI w W gc sn scap sa zs X N nm xs v1 dz v2 es v3 ats) (v1' : Value) (dz' : List Int) (ho : W.ownsRow w.heap.size 5 1 v1' dz'.length (dz'.map (Value.int .u8))) : DI w W gc sn scap sa zs X N nm xs v1' dz' v2 es v3 ats :=
  ⟨h.src, h.gr, h.hgc, h.res, h.x, h.hX, h.nm, ho, h.e, h.t⟩
theorem own_raise {B : Nat} {w : World} {g n c : Nat} {zs : List Int} (h : Own w g n c zs) (hg : B ≤ g) : w.ownsRow B 5 1 (.slice (some ⟨g, 0, none⟩) n c) n (zs.map (Value.int .u8)) := by
  refine ⟨h.1, ?_⟩
  rcases h.2 with ⟨h', _⟩ | ⟨g', c', cur, h', _, rest⟩
  · simp at h'
  · simp at h'
    obtain ⟨rfl, rfl⟩ := h'
    exact .inr ⟨g, c, cur, rfl, hg, rest⟩
/-! ### when what was drawn is right -/
theorem getD_app_left {α : Type} (l : List α) (q d : α) (i : Nat) (h : i < l.length) : (l ++ [q]).getD i d = l.getD i d := by
  simp [List.getElem?_append_left h]
theorem getD_app_end {α : Type} (l : List α) (q d : α) : (l ++ [q]).getD l.length d = q := by simp
theorem getD_mem {α : Type} (l : List α) (d : α) (i : Nat) (h : i < l.length) : l.getD i d ∈ l := by
  simp [h]
theorem entsOk_snoc {es : List (ByteArray × Int)} {q : ByteArray × Int} (h : entsOk es = true) (hl : es.length < 10) (hn : nameOk q.1.data.toList = true) (h1 : 2 ≤ q.2) (h2 : q.2 ≤ 1000) (hb : ∀ p ∈ es, Op.bytesLess p.1.toList q.1.toList = true) : entsOk (es ++ [q]) = true := by
  unfold entsOk at h ⊢
  simp only [Bool.and_eq_true, decide_eq_true_eq, List.all_eq_true, List.mem_range, List.length_append, List.length_cons, List.length_nil] at h ⊢
  refine ⟨fun i hi => ?_, by omega⟩
  by_cases he : i < es.length
  · have := h.1 i he
    unfold entAt at this ⊢
    rw [getD_app_left _ _ _ _ he, getD_app_left _ _ _ _ (by omega)]
    exact this
  · obtain rfl : i = es.length := by omega
    unfold entAt
    rw [getD_app_end]
    simp only [Bool.and_eq_true, Bool.or_eq_true, decide_eq_true_eq]
    refine ⟨⟨hn, h1, h2⟩, ?_⟩
    by_cases h0 : es.length = 0
    · exact .inl h0
    · right
      rw [getD_app_left _ _ _ _ (by omega)]
      exact hb _ (getD_mem _ _ _ (by omega))
theorem attsOk_snoc {es : List (ByteArray × ByteArray)} {q : ByteArray × ByteArray} (h : attsOk es = true) (hl : es.length < 4) (hn : nameOk q.1.data.toList = true) (h1 : q.2.size ≤ 16) (hb : ∀ p ∈ es, Op.bytesLess p.1.toList q.1.toList = true) : attsOk (es ++ [q]) = true := by
  unfold attsOk at h ⊢
  simp only [Bool.and_eq_true, decide_eq_true_eq, List.all_eq_true, List.mem_range, List.length_append, List.length_cons, List.length_nil] at h ⊢
  refine ⟨fun i hi => ?_, by omega⟩
  by_cases he : i < es.length
  · have := h.1 i he
    unfold attAt at this ⊢
    rw [getD_app_left _ _ _ _ he, getD_app_left _ _ _ _ (by omega)]
    exact this
  · obtain rfl : i = es.length := by omega
    unfold attAt
    rw [getD_app_end]
    simp only [Bool.and_eq_true, Bool.or_eq_true, decide_eq_true_eq]
    refine ⟨⟨hn, h1⟩, ?_⟩
    by_cases h0 : es.length = 0
    · exact .inl h0
    · right
      rw [getD_app_left _ _ _ _ (by omega)]
      exact hb _ (getD_mem _ _ _ (by omega))
/-- The names that are drawn. -/
def nms : List ByteArray := [⟨#[97]⟩, ⟨#[98]⟩, ⟨#[99]⟩, ⟨#[100, 46, 116, 120, 116]⟩]
theorem nms_ok (k : Nat) (h : k < 4) : nameOk (nms.getD k ⟨#[]⟩).data.toList = true ∧ ∀ j, j < k → Op.bytesLess (nms.getD j ⟨#[]⟩).toList (nms.getD k ⟨#[]⟩).toList = true := by
  have hall : ∀ k, k < 4 → nameOk (nms.getD k ⟨#[]⟩).data.toList = true ∧ ∀ j, j < 4 → j < k → Op.bytesLess (nms.getD j ⟨#[]⟩).data.toList (nms.getD k ⟨#[]⟩).data.toList = true := by decide
  refine ⟨(hall k h).1, fun j hj => ?_⟩
  rw [Lib.toList_data, Lib.toList_data]
  exact (hall k h).2 j (by omega) hj
/-- The entries behind k rounds. -/
structure EsI (k : Nat) (es : List (ByteArray × Int)) : Prop where
  ok : entsOk es = true
  len : es.length ≤ k
  nm : ∀ q ∈ es, ∃ j, j < k ∧ q.1 = nms.getD j ⟨#[]⟩
theorem EsI.nil : EsI 0 [] := ⟨by decide, by simp, fun q hq => by simp at hq⟩
theorem EsI.skip {k : Nat} {es : List (ByteArray × Int)} (h : EsI k es) : EsI (k + 1) es := ⟨h.ok, by have := h.len; omega, fun q hq => by obtain ⟨j, hj, e⟩ := h.nm q hq; exact ⟨j, by omega, e⟩⟩
theorem EsI.put {k : Nat} {es : List (ByteArray × Int)} (h : EsI k es) (hk : k < 4) (y : Int) (h1 : 2 ≤ y) (h2 : y ≤ 1000) : EsI (k + 1) (es ++ [(nms.getD k ⟨#[]⟩, y)]) := by
  obtain ⟨n1, n2⟩ := nms_ok k hk
  have hl := h.len
  refine ⟨entsOk_snoc h.ok (by omega) n1 h1 h2 (fun p hp => ?_), by simp; omega, fun q hq => ?_⟩
  · obtain ⟨j, hj, e⟩ := h.nm p hp
    rw [e]
    exact n2 j hj
  · rcases List.mem_append.1 hq with hq | hq
    · obtain ⟨j, hj, e⟩ := h.nm q hq
      exact ⟨j, by omega, e⟩
    · rw [List.mem_singleton] at hq
      exact ⟨k, by omega, by rw [hq]⟩
/-- The attributes behind k rounds. -/
structure AsI (k : Nat) (es : List (ByteArray × ByteArray)) : Prop where
  ok : attsOk es = true
  len : es.length ≤ k
  nm : ∀ q ∈ es, ∃ j, j < k ∧ q.1 = nms.getD j ⟨#[]⟩
theorem AsI.nil : AsI 0 [] := ⟨by decide, by simp, fun q hq => by simp at hq⟩
theorem AsI.skip {k : Nat} {es : List (ByteArray × ByteArray)} (h : AsI k es) : AsI (k + 1) es := ⟨h.ok, by have := h.len; omega, fun q hq => by obtain ⟨j, hj, e⟩ := h.nm q hq; exact ⟨j, by omega, e⟩⟩
theorem AsI.put {k : Nat} {es : List (ByteArray × ByteArray)} (h : AsI k es) (hk : k < 4) (y : ByteArray) (h1 : y.size ≤ 16) : AsI (k + 1) (es ++ [(nms.getD k ⟨#[]⟩, y)]) := by
  obtain ⟨n1, n2⟩ := nms_ok k hk
  have hl := h.len
  refine ⟨attsOk_snoc h.ok (by omega) n1 h1 (fun p hp => ?_), by simp; omega, fun q hq => ?_⟩
  · obtain ⟨j, hj, e⟩ := h.nm p hp
    rw [e]
    exact n2 j hj
  · rcases List.mem_append.1 hq with hq | hq
    · obtain ⟨j, hj, e⟩ := h.nm q hq
      exact ⟨j, by omega, e⟩
    · rw [List.mem_singleton] at hq
      exact ⟨k, by omega, by rw [hq]⟩
/-- What was drawn is right. -/
theorem drawn_ok {x y z : Nat} {dz : List Int} {es : List (ByteArray × Int)} {ats : List (ByteArray × ByteArray)} (hx : x < 6) (hz : z < 2) (ha : AsI 2 ats) (hc : (y = 0 ∧ dz.length ≤ 100 ∧ es = []) ∨ (y = 1 ∧ z = 0 ∧ dz = [] ∧ EsI 4 es)) : inoOk ⟨2 + (x : Int), 1 + (y : Int), 1 + (z : Int), dz, es, ats⟩ = true := by
  have h1 : (decide (1 ≤ 2 + (x : Int)) && decide (2 + (x : Int) ≤ 1000)) = true := by simp; omega
  have h2 : (decide (0 ≤ 1 + (z : Int)) && decide (1 + (z : Int) ≤ 1000)) = true := by simp; omega
  have h3 : ((1 + (z : Int) == 0) == (2 + (x : Int) == 1)) = true := by
    have e1 : (1 + (z : Int) == 0) = false := by simp; omega
    have e2 : (2 + (x : Int) == 1) = false := by simp; omega
    rw [e1, e2]
    rfl
  unfold inoOk kindR
  dsimp only
  rw [h1, h2, h3, ha.ok]
  rcases hc with ⟨rfl, hd, rfl⟩ | ⟨rfl, rfl, rfl, he⟩
  · simp [hd, entsOk]
  · simp [he.ok]
end

section
open Go.RowKit
/-- The lists of a drawn inode, each nil or of the call's own, at or behind B. -/
structure LB (W : World) (B : Nat) (D : InoD) (v1 v2 v3 : Value) : Prop where
  d : W.ownsRow B 5 1 v1 D.data.length (D.data.map (Value.int .u8))
  byt : Byt D.data
  e : W.ownsRow B 67 2 v2 D.ents.length (pv (eP D.ents))
  t : W.ownsRow B 70 2 v3 D.attrs.length (pv (aP D.attrs))
/-- What a draw of an inode answers. -/
def DrawPost (w : World) (gc sn scap : Nat) (sa : Option Addr) (zs : List Int) (P : InoD → Prop) (e : Ending) (w' : World) : Prop :=
  ∃ (D : InoD) (v1 v2 v3 : Value), e = .returned (.agg #[.int .i64 D.ino, .int .i64 D.kind, .int .i64 D.links, v1, v2, v3]) ∧ LB w' w.heap.size D v1 v2 v3 ∧ P D ∧ Src w' gc sn scap sa zs ∧ w.grownBy w' (some gc)
/-- What l3Draw draws. -/
def DrD (D : InoD) : Prop := inoOk D = true ∧ ∀ q ∈ D.ents, ∃ j, j < 4 ∧ q.1 = nms.getD j ⟨#[]⟩
theorem five (k : Nat) (h : k < 5) : ∃ m : Nat, ([0, 1, 5, 20, 100] : List Int).getD k 0 = (m : Int) ∧ m ≤ 100 := by
  rcases (show k = 0 ∨ k = 1 ∨ k = 2 ∨ k = 3 ∨ k = 4 by omega) with rfl | rfl | rfl | rfl | rfl
  · exact ⟨0, rfl, by omega⟩
  · exact ⟨1, rfl, by omega⟩
  · exact ⟨5, rfl, by omega⟩
  · exact ⟨20, rfl, by omega⟩
  · exact ⟨100, rfl, by omega⟩
theorem val_shape {B : Nat} {W : World} {e : TypeId} {s : Nat} {v : Value} {n : Nat} {xs : List Value} (h : W.ownsRow B e s v n xs) : ∃ a c, v = .slice a n c := by
  rcases h.2 with ⟨rfl, rfl⟩ | ⟨g, c, cur, rfl, _⟩
  · exact ⟨none, 0, rfl⟩
  · exact ⟨_, _, rfl⟩
theorem nm_cell {w : World} {N k : Nat} (h : Blk w N 9 (nms.map Value.string).toArray) (hk : k < 4) : w.cell? ⟨N, k, none⟩ = some (.string (nms.getD k ⟨#[]⟩)) := by
  have := h.cell k
  have e : (nms.map Value.string).toArray[k]? = some (.string (nms.getD k ⟨#[]⟩)) := by
    rcases (show k = 0 ∨ k = 1 ∨ k = 2 ∨ k = 3 by omega) with rfl | rfl | rfl | rfl <;> rfl
  rw [this, e]
/-- The answer stored. -/
theorem drawn_end {w W : World} {gc sn scap : Nat} {sa : Option Addr} {zs : List Int} {X N : Nat} {nm xs : Array Value} {v1 : Value} {dz : List Int} {v2 : Value} {es : List (ByteArray × Int)} {v3 : Value} {ats : List (ByteArray × ByteArray)} {P : InoD → Prop} (h : DI w W gc sn scap sa zs X N nm xs v1 dz v2 es v3 ats) (D : InoD) (hd : D.data = dz) (he : D.ents = es) (ht : D.attrs = ats) (hb : Byt dz) (hP : P D) (u0 u1 u2 u3 u4 u5 : Value) :
    DrawPost w gc sn scap sa zs P (.returned (.agg #[.int .i64 D.ino, .int .i64 D.kind, .int .i64 D.links, v1, v2, v3])) ((((((W.setCell ⟨w.heap.size, 0, none⟩ u0).setCell ⟨w.heap.size, 1, none⟩ u1).setCell ⟨w.heap.size, 2, none⟩ u2).setCell ⟨w.heap.size, 3, none⟩ u3).setCell ⟨w.heap.size, 4, none⟩ u4).setCell ⟨w.heap.size, 5, none⟩ u5) := by
  have g := gr_more (gr_more (gr_more (gr_more (gr_more (gr_setC W w.heap.size 0 u0) 1 u1) 2 u2) 3 u3) 4 u4) 5 u5
  have k := KpT.grown (ts := [5, 67, 70]) g h.res (by decide)
  subst hd he ht
  refine ⟨D, v1, v2, v3, rfl, ⟨row_kp h.d k (by decide), hb, row_kp h.e k (by decide), row_kp h.t k (by decide)⟩, hP, h.src.other g h.hgc, gr_own h.gr (fun m hm => by simp at hm; omega) g⟩
set_option maxRecDepth 100000 in
set_option maxHeartbeats 8000000 in
theorem l3Draw_any (gc sn scap : Nat) (sa : Option Addr) (zs : List Int) (w : World) (h : Src w gc sn scap sa zs) :
    Calls Try.prog 58 #[.pointer (some ⟨gc, 0, none⟩)] w fun e w' => DrawPost w gc sn scap sa zs DrD e w' := by
  obtain ⟨ie, hie, ze0, ze1, ze2⟩ := info_parts Try.infoEnt
  obtain ⟨ia, hia, za0, za1, za2⟩ := info_parts Try.infoAttr
  have hgc := h.cur.lt
  go_enter Try.func58, Try.ntmps58
  go_wp2_with fail
  refine (below_step gc sn scap sa zs 6 _ (h.alloc _) (by omega) (by omega)).mono ?_
  rintro e w1 ⟨x, rfl, hx, s1, g1⟩
  go_wp2_with fail
  refine (below_step gc sn scap sa zs 2 _ s1 (by omega) (by omega)).mono ?_
  rintro e w2 ⟨y, rfl, hy, s2, g2⟩
  have e1 := (World.grownBy_alloc w (.cells #[.int .i64 0, .int .i64 0, .int .i64 0, .slice none 0 0, .slice none 0 0, .slice none 0 0] 30) (some gc)).trans (g1.trans g2)
  have hs12 := e1.size
  have hw2 : w.heap.size < w2.heap.size := by have := (g1.trans g2).size; simp at this; omega
  have zr := ((Blk.new w 30 #[.int .i64 0, .int .i64 0, .int .i64 0, .slice none 0 0, .slice none 0 0, .slice none 0 0]).kept g1 (by omega)).kept g2 (by omega)
  have di0 : DI w ((w2.alloc (.cells #[.int .i64 (2 + (x : Int)), .int .i64 (1 + (y : Int)), .int .i64 1, .slice none 0 0, .slice none 0 0, .slice none 0 0] 30)).alloc (.cells (nms.map Value.string).toArray 9)) gc sn scap sa zs w2.heap.size (w2.heap.size + 1) (nms.map Value.string).toArray #[.int .i64 (2 + (x : Int)), .int .i64 (1 + (y : Int)), .int .i64 1, .slice none 0 0, .slice none 0 0, .slice none 0 0] (.slice none 0 0) [] (.slice none 0 0) [] (.slice none 0 0) [] :=
    ⟨(s2.alloc _).alloc _, (e1.trans (World.grownBy_alloc w2 _ (some gc))).trans (World.grownBy_alloc _ _ (some gc)), hgc, (zr.alloc _).alloc _, (Blk.new w2 _ _).alloc _, hw2, Blk.newAt (by simp), ⟨rfl, .inl ⟨rfl, rfl⟩⟩, ⟨rfl, .inl ⟨rfl, rfl⟩⟩, ⟨rfl, .inl ⟨rfl, rfl⟩⟩⟩
  clear g1 g2 s1 s2 e1 zr hs12 hw2 h
  go_upto_region 3 with fail
  obtain ⟨W3, hW3⟩ : ∃ W, (w2.alloc (.cells #[.int .i64 (2 + (x : Int)), .int .i64 (1 + (y : Int)), .int .i64 1, .slice none 0 0, .slice none 0 0, .slice none 0 0] 30)).alloc (.cells (nms.map Value.string).toArray 9) = W := ⟨_, rfl⟩
  obtain ⟨N, hN⟩ : ∃ X, w2.heap.size + 1 = X := ⟨_, rfl⟩
  obtain ⟨X, hX⟩ : ∃ X, w2.heap.size = X := ⟨_, rfl⟩
  rw [hW3] at di0
  rw [hN] at di0
  rw [hX] at di0
  (have hg := hW3; unfold nms at hg; simp only [List.map_cons, List.map_nil] at hg)
  rw [hg]
  rw [hN]
  rw [hX]
  clear hg hW3 hN hX
  by_cases hy0 : y = 0
  · subst hy0
    rw [show (1 + ((0 : Nat) : Int)) = 1 from rfl] at di0 ⊢
    have x1 := di0.x.cell 1
    simp at x1
    have dA := di0.al (.cells #[.int .i64 0, .int .i64 1, .int .i64 5, .int .i64 20, .int .i64 100] 3)
    have hgW := di0.src.cur.lt
    have hcI := int_step gc sn scap sa zs W3.heap.size 5 [0, 1, 5, 20, 100] _ dA.src rfl (by omega) (by omega) (by omega) (fun j hj => ints_cells W3 [0, 1, 5, 20, 100] 3 j hj)
    go_wp2_with fail
    (with_reducible refine hcI.mono ?_)
    rintro e w5 ⟨k5, rfl, hk5, s5, g5⟩
    obtain ⟨m, hm5, hm⟩ := five k5 hk5
    rw [hm5]
    have d5 := dA.cur s5 g5
    clear hm5 hcI dA di0 x1 g5
    go_wp2_with fail
    (with_reducible refine (bytes_step gc sn scap sa zs m w5 s5 (by omega)).mono ?_)
    rintro e w6 ⟨gy, cy, ys, rfl, hgy, hby, ho, s6, g6⟩
    have d6 := d5.cur s6 g6
    have hyl : ys.length = m := by have := ho.1; simpa using this
    have hw5 := d5.gr.size
    have d7 := d6.newD (.slice (some ⟨gy, 0, none⟩) m cy) ys (by rw [hyl]; exact own_raise ho (by omega))
    have x3 := d7.x.cell 3
    have f3 := d7.x.frozen 3
    simp at x3
    have d8 : DI w (w6.setCell ⟨X, 3, none⟩ (.slice (some ⟨gy, 0, none⟩) m cy)) gc sn scap sa zs X N (nms.map Value.string).toArray #[.int .i64 (2 + (x : Int)), .int .i64 1, .int .i64 1, (.slice (some ⟨gy, 0, none⟩) m cy), (.slice none 0 0), (.slice none 0 0)] (.slice (some ⟨gy, 0, none⟩) m cy) ys (.slice none 0 0) [] (.slice none 0 0) [] := d7.setX 3 _
    clear d5 d6 d7 s5 s6 g6 ho hgy hw5
    go_upto_region 5 with fail
    obtain ⟨W8, hW8⟩ : ∃ W, w6.setCell ⟨X, 3, none⟩ (.slice (some ⟨gy, 0, none⟩) m cy) = W := ⟨_, rfl⟩
    rw [hW8] at d8 ⊢
    clear hW8 x3 f3
    go_wp2_with fail
    refine (below_step gc sn scap sa zs 2 _ d8.src (by omega) (by omega)).mono ?_
    rintro e w9 ⟨z9, rfl, hz9, s9, g9⟩
    have d9 := d8.cur s9 g9
    have x2 := d9.x.cell 2
    have f2 := d9.x.frozen 2
    simp at x2
    have dj : DI w (w9.setCell ⟨X, 2, none⟩ (.int .i64 (1 + (z9 : Int)))) gc sn scap sa zs X N (nms.map Value.string).toArray #[.int .i64 (2 + (x : Int)), .int .i64 1, .int .i64 (1 + (z9 : Int)), (.slice (some ⟨gy, 0, none⟩) m cy), (.slice none 0 0), (.slice none 0 0)] (.slice (some ⟨gy, 0, none⟩) m cy) ys (.slice none 0 0) [] (.slice none 0 0) [] := d9.setX 2 _
    have hbz : Byt ys := hby
    have fin : Hid (∀ ats, AsI 2 ats → DrD ⟨2 + (x : Int), 1, 1 + (z9 : Int), ys, [], ats⟩) := fun ats ha => ⟨drawn_ok (y := 0) hx hz9 ha (.inl ⟨rfl, by omega, rfl⟩), fun q hq => by simp at hq⟩
    clear d8 d9 s9 g9 hyl hby
    go_upto_region 11 with fail
    obtain ⟨W10, hW10⟩ : ∃ W, w9.setCell ⟨X, 2, none⟩ (.int .i64 (1 + (z9 : Int))) = W := ⟨_, rfl⟩
    rw [hW10] at dj ⊢
    clear hW10 x2 f2
    go_wp2
    go_loopw [6] (fun i wr => ∃ (k : Nat) (v3 : Value) (ats : List (ByteArray × ByteArray)), k ≤ 2 ∧ i = .int .i64 k ∧ AsI k ats ∧ DI w wr gc sn scap sa zs X N (nms.map Value.string).toArray #[.int .i64 (2 + (x : Int)), .int .i64 1, .int .i64 (1 + (z9 : Int)), (.slice (some ⟨gy, 0, none⟩) m cy), (.slice none 0 0), v3] (.slice (some ⟨gy, 0, none⟩) m cy) ys (.slice none 0 0) [] v3 ats) (fun i _ => 2 - (intOf i).toNat)
    case atStart => exact ⟨0, .slice none 0 0, [], by omega, rfl, AsI.nil, dj⟩
    case round =>
      obtain ⟨k, v3, ats, hk, rfl, has, dk⟩ := hrel
      clear dj
      by_cases hk2 : k < 2
      · have hki : (k : Int) < 2 := by omega
        have hki4 : (k : Int) < 4 := by omega
        have hk0 : (0 : Int) ≤ (k : Int) := by omega
        go_wp2_with fail
        refine (once_step gc sn scap  sa zs 3 wr dk.src (by omega) (by omega)).mono ?_
        rintro e u1 ⟨Bo, rfl, hs1, hg1⟩
        have d1 := dk.cur hs1 hg1
        clear dk hs1 hg1
        cases Bo with
        | false =>
          go_wp2
          go_roundw
          all_goals first
            | (case rel => exact ⟨k + 1, v3, ats, by omega, by go_num, has.skip, d1⟩)
            | (case rel => (repeat apply Exists.intro); exact ⟨⟨k + 1, v3, ats, by omega, by go_num, has.skip, d1⟩, rfl⟩)
            | (case measure => simp [intOf]; omega)
        | true =>
          have hal := has.len
          obtain ⟨z, hz⟩ : ∃ z, nms.getD k ⟨#[]⟩ = z := ⟨_, rfl⟩
          have hput : Hid (∀ y : ByteArray, y.size ≤ 16 → AsI (k + 1) (ats ++ [(z, y)])) := by rw [← hz]; exact fun y hy => has.put (by omega) y hy
          have HZ : Hid _ := hz
          have n0 := nm_cell d1.nm (show k < 4 by omega)
          rw [hz] at n0
          have x0 := d1.x.cell 5
          simp at x0
          have dS := (d1.al (.cells #[.string ⟨#[120]⟩, .string ⟨#[118, 97, 108, 117, 101]⟩, .string ⟨#[115, 105, 120, 116, 101, 101, 110, 98, 121, 116, 101, 115, 120, 120, 120, 120]⟩] 9)).dr
          have n1 := nm_cell dS.nm (show k < 4 by omega)
          rw [hz] at n1
          have x1 := dS.x.cell 5
          simp at x1
          have hgcX : gc < u1.heap.size := d1.src.cur.lt
          have hcS := str_step gc sn scap sa zs u1.heap.size 3 [⟨#[120]⟩, ⟨#[118, 97, 108, 117, 101]⟩, ⟨#[115, 105, 120, 116, 101, 101, 110, 98, 121, 116, 101, 115, 120, 120, 120, 120]⟩] _ dS.src rfl (by omega) (by omega) (by omega) (fun j hj => strs_cells u1 [⟨#[120]⟩, ⟨#[118, 97, 108, 117, 101]⟩, ⟨#[115, 105, 120, 116, 101, 101, 110, 98, 121, 116, 101, 115, 120, 120, 120, 120]⟩] j hj) (by decide)
          clear hz
          go_upto_region 15 with fail
          go_region_law (first
            | (go_simp; go_at_call 59; (with_reducible refine hcS.mono ?_); rintro e u2 ⟨zv, rfl, hzv, hs2, hg2⟩; have d2 := dS.cur hs2 hg2; have n2 := nm_cell d2.nm (show k < 4 by omega); rw [HZ.out] at n2; have x2 := d2.x.cell 5; (simp at x2); have n3 := nm_cell (d2.nm.alloc (.cells #[.string z, .string zv] 70)) (show k < 4 by omega); rw [HZ.out] at n3; have x3 := (d2.x.alloc (.cells #[.string z, .string zv] 70)).cell 5; (simp at x3); have hrow := World.ownsRow.alloc d2.t (.cells #[.string z, .string zv] 70); have hbw : w.heap.size ≤ (u2.alloc (.cells #[.string z, .string zv] 70)).heap.size := (by simp; have := d2.gr.size; omega); dsimp only)
            | (refine step_append_lies (u2.alloc (.cells #[.string z, .string zv] 70)) rfl (.tmp 54) (.tmp 63) 28 rfl w.heap.size 70 ia _ 2 32 Try.underlying28 hia za0 za1 za2 rfl (by omega) v3 ats.length (pv (aP ats)) rfl hrow ⟨u2.heap.size, 0, none⟩ 1 1 [.string z, .string zv] rfl rfl (pair_news u2 (.string z, .string zv) _) (by intro u hu; simp at hu; rcases hu with rfl | rfl <;> rfl) (by omega) (by unfold maxLen; omega) (by omega) hbw (u2.heap.size + 1) (by simp) ?_; intro g5 c5 u5 ho5 hg5 hat5 hlt5; have d5 := d2.appA (.cells #[.string z, .string zv] 70) hg5 (.slice (some ⟨g5, 0, none⟩) (ats.length + 1) c5) (ats ++ [(z, zv)]) (by rw [List.length_append, aP_snoc, pv_snoc]; exact ho5); have y5 := d5.x.cell 5; have f5 := d5.x.frozen 5; (simp at y5))
            | fail)
          all_goals (have d6 : DI w (u5.setCell ⟨X, 5, none⟩ (.slice (some ⟨g5, 0, none⟩) (ats.length + 1) c5)) gc sn scap sa zs X N (nms.map Value.string).toArray #[.int .i64 (2 + (x : Int)), .int .i64 1, .int .i64 (1 + (z9 : Int)), (.slice (some ⟨gy, 0, none⟩) m cy), (.slice none 0 0), (.slice (some ⟨g5, 0, none⟩) (ats.length + 1) c5)] (.slice (some ⟨gy, 0, none⟩) m cy) ys (.slice none 0 0) [] (.slice (some ⟨g5, 0, none⟩) (ats.length + 1) c5) (ats ++ [(z, zv)]) := d5.setX 5 _; clear d5 hrow hbw)
          all_goals go_wp2
          all_goals go_roundw
          all_goals first
            | (case rel => (repeat apply Exists.intro); exact ⟨⟨k + 1, _, _, by omega, by go_num, hput.out zv hzv, d6⟩, rfl⟩)
            | (case rel => exact ⟨k + 1, _, _, by omega, by go_num, hput.out zv hzv, d6⟩)
            | (case measure => simp [intOf]; omega)
      · have hki : ¬ (k : Int) < 2 := by omega
        obtain rfl : k = 2 := by omega
        obtain ⟨va3, vc3, rfl⟩ := val_shape dk.t
        obtain ⟨q0, q1, q2, q3, q4, q5⟩ := dk.x.six
        obtain ⟨r0, r1, r2, r3, r4, r5⟩ := dk.res.six
        have f0 := dk.res.frozen 0
        have f1 := dk.res.frozen 1
        have f2 := dk.res.frozen 2
        have f3 := dk.res.frozen 3
        have f4 := dk.res.frozen 4
        have f5 := dk.res.frozen 5
        have HK : Hid _ := dk
        clear dk
        go_wp2
        have kr := HK.out.res
        have zf := (((((kr.set 0 (.int .i64 (2 + (x : Int)))).set 1 (.int .i64 1)).set 2 (.int .i64 (1 + (z9 : Int)))).set 3 (.slice (some ⟨gy, 0, none⟩) m cy)).set 4 (.slice none 0 0)).set 5 (.slice va3 ats.length vc3)
        have dd0 := zf.cell 0
        have dd1 := zf.cell 1
        have dd2 := zf.cell 2
        have dd3 := zf.cell 3
        have dd4 := zf.cell 4
        have dd5 := zf.cell 5
        simp at dd0 dd1 dd2 dd3 dd4 dd5
        refine bodyPost_ret (v := .agg #[.int .i64 (2 + (x : Int)), .int .i64 1, .int .i64 (1 + (z9 : Int)), (.slice (some ⟨gy, 0, none⟩) m cy), (.slice none 0 0), .slice va3 ats.length vc3]) (by simp [results, Try.f58, go_sem, dd0, dd1, dd2, dd3, dd4, dd5]) rfl ?_
        exact drawn_end HK.out ⟨2 + (x : Int), 1, (1 + (z9 : Int)), ys, [], ats⟩ rfl rfl rfl hbz (fin.out ats has) _ _ _ _ _ _
  · obtain rfl : y = 1 := by omega
    rw [show (1 + ((1 : Nat) : Int)) = 2 from rfl] at di0 ⊢
    have x1 := di0.x.cell 1
    simp at x1
    go_wp2
    clear x1
    go_loopw [5] (fun i wr => ∃ (k : Nat) (v2 : Value) (es : List (ByteArray × Int)), k ≤ 4 ∧ i = .int .i64 k ∧ EsI k es ∧ DI w wr gc sn scap sa zs X N (nms.map Value.string).toArray #[.int .i64 (2 + (x : Int)), .int .i64 2, .int .i64 1, (.slice none 0 0), v2, (.slice none 0 0)] (.slice none 0 0) [] v2 es (.slice none 0 0) []) (fun i _ => 4 - (intOf i).toNat)
    case atStart => exact ⟨0, .slice none 0 0, [], by omega, rfl, EsI.nil, di0⟩
    case round =>
      obtain ⟨k, v2, es, hk, rfl, hes, dk⟩ := hrel
      clear di0
      by_cases hk4 : k < 4
      · have hki : (k : Int) < 4 := by omega
        have hk0 : (0 : Int) ≤ (k : Int) := by omega
        go_wp2_with fail
        refine (once_step gc sn scap sa zs 2 wr dk.src (by omega) (by omega)).mono ?_
        rintro e u1 ⟨Bo, rfl, hs1, hg1⟩
        have d1 := dk.cur hs1 hg1
        clear dk hs1 hg1
        cases Bo with
        | false =>
          go_wp2
          go_roundw
          all_goals first
            | (case rel => exact ⟨k + 1, v2, es, by omega, by go_num, hes.skip, d1⟩)
            | (case rel => (repeat apply Exists.intro); exact ⟨⟨k + 1, v2, es, by omega, by go_num, hes.skip, d1⟩, rfl⟩)
            | (case measure => simp [intOf]; omega)
        | true =>
          have hel := hes.len
          obtain ⟨z, hz⟩ : ∃ z, nms.getD k ⟨#[]⟩ = z := ⟨_, rfl⟩
          have hput : Hid (∀ y : Nat, y < 8 → EsI (k + 1) (es ++ [(z, 2 + (y : Int))])) := by rw [← hz]; exact fun y hy => hes.put hk4 _ (by omega) (by omega)
          have HZ : Hid _ := hz
          have n0 := nm_cell d1.nm hk4
          rw [hz] at n0
          have x0 := d1.x.cell 4
          simp at x0
          have hcB := below_step gc sn scap sa zs 8 u1.drew d1.dr.src (by omega) (by omega)
          clear hz
          go_upto_region 10 with fail
          go_region_law (first
            | (go_simp; go_at_call 56; (refine hcB.mono ?_); rintro e u2 ⟨yy, rfl, hyy, hs2, hg2⟩; have hwr : IntKind.i64.wrap (2 + (yy : Int)) = 2 + (yy : Int) := (by rw [IntKind.wrap_i64]; omega); have d2 := d1.dr.cur hs2 hg2; have n2 := nm_cell d2.nm hk4; rw [HZ.out] at n2; have x2 := d2.x.cell 4; (simp at x2); have n3 := nm_cell (d2.nm.alloc (.cells #[.string z, .int .i64 (2 + (yy : Int))] 67)) hk4; rw [HZ.out] at n3; have x3 := (d2.x.alloc (.cells #[.string z, .int .i64 (2 + (yy : Int))] 67)).cell 4; (simp at x3); have hrow := World.ownsRow.alloc d2.e (.cells #[.string z, .int .i64 (2 + (yy : Int))] 67); have hbw : w.heap.size ≤ (u2.alloc (.cells #[.string z, .int .i64 (2 + (yy : Int))] 67)).heap.size := (by simp; have := d2.gr.size; omega); dsimp only)
            | (refine step_append_lies (u2.alloc (.cells #[.string z, .int .i64 (2 + (yy : Int))] 67)) rfl (.tmp 35) (.tmp 44) 27 rfl w.heap.size 67 ie _ 2 24 Try.underlying27 hie ze0 ze1 ze2 rfl (by omega) v2 es.length (pv (eP es)) rfl hrow ⟨u2.heap.size, 0, none⟩ 1 1 [.string z, .int .i64 (2 + (yy : Int))] rfl rfl (pair_news u2 (.string z, .int .i64 (2 + (yy : Int))) _) (by intro u hu; simp at hu; rcases hu with rfl | rfl <;> rfl) (by omega) (by unfold maxLen; omega) (by omega) hbw (u2.heap.size + 1) (by simp) ?_; intro g5 c5 u5 ho5 hg5 hat5 hlt5; have d5 := d2.appE (.cells #[.string z, .int .i64 (2 + (yy : Int))] 67) hg5 (.slice (some ⟨g5, 0, none⟩) (es.length + 1) c5) (es ++ [(z, 2 + (yy : Int))]) (by rw [List.length_append, eP_snoc, pv_snoc]; exact ho5); have y5 := d5.x.cell 4; have f5 := d5.x.frozen 4; (simp at y5))
            | fail)
          all_goals (have d6 : DI w (u5.setCell ⟨X, 4, none⟩ (.slice (some ⟨g5, 0, none⟩) (es.length + 1) c5)) gc sn scap sa zs X N (nms.map Value.string).toArray #[.int .i64 (2 + (x : Int)), .int .i64 2, .int .i64 1, (.slice none 0 0), (.slice (some ⟨g5, 0, none⟩) (es.length + 1) c5), (.slice none 0 0)] (.slice none 0 0) [] (.slice (some ⟨g5, 0, none⟩) (es.length + 1) c5) (es ++ [(z, 2 + (yy : Int))]) (.slice none 0 0) [] := d5.setX 4 _; clear d5 hrow hbw)
          all_goals go_wp2
          all_goals go_roundw
          all_goals first
            | (case rel => (repeat apply Exists.intro); exact ⟨⟨k + 1, _, _, by omega, by go_num, hput.out yy hyy, d6⟩, rfl⟩)
            | (case rel => exact ⟨k + 1, _, _, by omega, by go_num, hput.out yy hyy, d6⟩)
            | (case measure => simp [intOf]; omega)
      · have hki : ¬ (k : Int) < 4 := by omega
        obtain rfl : k = 4 := by omega
        obtain ⟨va2, vc2, rfl⟩ := val_shape dk.e
        have dj := dk
        have hbz : Byt ([] : List Int) := fun z hz => by simp at hz
        have fin : Hid (∀ ats, AsI 2 ats → DrD ⟨2 + (x : Int), 2, 1, [], es, ats⟩) := fun ats ha => ⟨drawn_ok (y := 1) (z := 0) hx (by omega) ha (.inr ⟨rfl, rfl, rfl, hes⟩), hes.nm⟩
        clear dk
        go_wp2
        go_loopw [6] (fun i wr => ∃ (k : Nat) (v3 : Value) (ats : List (ByteArray × ByteArray)), k ≤ 2 ∧ i = .int .i64 k ∧ AsI k ats ∧ DI w wr gc sn scap sa zs X N (nms.map Value.string).toArray #[.int .i64 (2 + (x : Int)), .int .i64 2, .int .i64 1, (.slice none 0 0), (.slice va2 es.length vc2), v3] (.slice none 0 0) [] (.slice va2 es.length vc2) es v3 ats) (fun i _ => 2 - (intOf i).toNat)
        case atStart => exact ⟨0, .slice none 0 0, [], by omega, rfl, AsI.nil, dj⟩
        case round =>
          obtain ⟨k, v3, ats, hk, rfl, has, dk⟩ := hrel
          clear dj
          by_cases hk2 : k < 2
          · have hki : (k : Int) < 2 := by omega
            have hki4 : (k : Int) < 4 := by omega
            have hk0 : (0 : Int) ≤ (k : Int) := by omega
            go_wp2_with fail
            refine (once_step gc sn scap  sa zs 3 wr dk.src (by omega) (by omega)).mono ?_
            rintro e u1 ⟨Bo, rfl, hs1, hg1⟩
            have d1 := dk.cur hs1 hg1
            clear dk hs1 hg1
            cases Bo with
            | false =>
              go_wp2
              go_roundw
              all_goals first
                | (case rel => exact ⟨k + 1, v3, ats, by omega, by go_num, has.skip, d1⟩)
                | (case rel => (repeat apply Exists.intro); exact ⟨⟨k + 1, v3, ats, by omega, by go_num, has.skip, d1⟩, rfl⟩)
                | (case measure => simp [intOf]; omega)
            | true =>
              have hal := has.len
              obtain ⟨z, hz⟩ : ∃ z, nms.getD k ⟨#[]⟩ = z := ⟨_, rfl⟩
              have hput : Hid (∀ y : ByteArray, y.size ≤ 16 → AsI (k + 1) (ats ++ [(z, y)])) := by rw [← hz]; exact fun y hy => has.put (by omega) y hy
              have HZ : Hid _ := hz
              have n0 := nm_cell d1.nm (show k < 4 by omega)
              rw [hz] at n0
              have x0 := d1.x.cell 5
              simp at x0
              have dS := (d1.al (.cells #[.string ⟨#[120]⟩, .string ⟨#[118, 97, 108, 117, 101]⟩, .string ⟨#[115, 105, 120, 116, 101, 101, 110, 98, 121, 116, 101, 115, 120, 120, 120, 120]⟩] 9)).dr
              have n1 := nm_cell dS.nm (show k < 4 by omega)
              rw [hz] at n1
              have x1 := dS.x.cell 5
              simp at x1
              have hgcX : gc < u1.heap.size := d1.src.cur.lt
              have hcS := str_step gc sn scap sa zs u1.heap.size 3 [⟨#[120]⟩, ⟨#[118, 97, 108, 117, 101]⟩, ⟨#[115, 105, 120, 116, 101, 101, 110, 98, 121, 116, 101, 115, 120, 120, 120, 120]⟩] _ dS.src rfl (by omega) (by omega) (by omega) (fun j hj => strs_cells u1 [⟨#[120]⟩, ⟨#[118, 97, 108, 117, 101]⟩, ⟨#[115, 105, 120, 116, 101, 101, 110, 98, 121, 116, 101, 115, 120, 120, 120, 120]⟩] j hj) (by decide)
              clear hz
              go_upto_region 15 with fail
              go_region_law (first
                | (go_simp; go_at_call 59; (with_reducible refine hcS.mono ?_); rintro e u2 ⟨zv, rfl, hzv, hs2, hg2⟩; have d2 := dS.cur hs2 hg2; have n2 := nm_cell d2.nm (show k < 4 by omega); rw [HZ.out] at n2; have x2 := d2.x.cell 5; (simp at x2); have n3 := nm_cell (d2.nm.alloc (.cells #[.string z, .string zv] 70)) (show k < 4 by omega); rw [HZ.out] at n3; have x3 := (d2.x.alloc (.cells #[.string z, .string zv] 70)).cell 5; (simp at x3); have hrow := World.ownsRow.alloc d2.t (.cells #[.string z, .string zv] 70); have hbw : w.heap.size ≤ (u2.alloc (.cells #[.string z, .string zv] 70)).heap.size := (by simp; have := d2.gr.size; omega); dsimp only)
                | (refine step_append_lies (u2.alloc (.cells #[.string z, .string zv] 70)) rfl (.tmp 54) (.tmp 63) 28 rfl w.heap.size 70 ia _ 2 32 Try.underlying28 hia za0 za1 za2 rfl (by omega) v3 ats.length (pv (aP ats)) rfl hrow ⟨u2.heap.size, 0, none⟩ 1 1 [.string z, .string zv] rfl rfl (pair_news u2 (.string z, .string zv) _) (by intro u hu; simp at hu; rcases hu with rfl | rfl <;> rfl) (by omega) (by unfold maxLen; omega) (by omega) hbw (u2.heap.size + 1) (by simp) ?_; intro g5 c5 u5 ho5 hg5 hat5 hlt5; have d5 := d2.appA (.cells #[.string z, .string zv] 70) hg5 (.slice (some ⟨g5, 0, none⟩) (ats.length + 1) c5) (ats ++ [(z, zv)]) (by rw [List.length_append, aP_snoc, pv_snoc]; exact ho5); have y5 := d5.x.cell 5; have f5 := d5.x.frozen 5; (simp at y5))
                | fail)
              all_goals (have d6 : DI w (u5.setCell ⟨X, 5, none⟩ (.slice (some ⟨g5, 0, none⟩) (ats.length + 1) c5)) gc sn scap sa zs X N (nms.map Value.string).toArray #[.int .i64 (2 + (x : Int)), .int .i64 2, .int .i64 1, (.slice none 0 0), (.slice va2 es.length vc2), (.slice (some ⟨g5, 0, none⟩) (ats.length + 1) c5)] (.slice none 0 0) [] (.slice va2 es.length vc2) es (.slice (some ⟨g5, 0, none⟩) (ats.length + 1) c5) (ats ++ [(z, zv)]) := d5.setX 5 _; clear d5 hrow hbw)
              all_goals go_wp2
              all_goals go_roundw
              all_goals first
                | (case rel => (repeat apply Exists.intro); exact ⟨⟨k + 1, _, _, by omega, by go_num, hput.out zv hzv, d6⟩, rfl⟩)
                | (case rel => exact ⟨k + 1, _, _, by omega, by go_num, hput.out zv hzv, d6⟩)
                | (case measure => simp [intOf]; omega)
          · have hki : ¬ (k : Int) < 2 := by omega
            obtain rfl : k = 2 := by omega
            obtain ⟨va3, vc3, rfl⟩ := val_shape dk.t
            obtain ⟨q0, q1, q2, q3, q4, q5⟩ := dk.x.six
            obtain ⟨r0, r1, r2, r3, r4, r5⟩ := dk.res.six
            have f0 := dk.res.frozen 0
            have f1 := dk.res.frozen 1
            have f2 := dk.res.frozen 2
            have f3 := dk.res.frozen 3
            have f4 := dk.res.frozen 4
            have f5 := dk.res.frozen 5
            have HK : Hid _ := dk
            clear dk
            go_wp2
            have kr := HK.out.res
            have zf := (((((kr.set 0 (.int .i64 (2 + (x : Int)))).set 1 (.int .i64 2)).set 2 (.int .i64 1)).set 3 (.slice none 0 0)).set 4 (.slice va2 es.length vc2)).set 5 (.slice va3 ats.length vc3)
            have dd0 := zf.cell 0
            have dd1 := zf.cell 1
            have dd2 := zf.cell 2
            have dd3 := zf.cell 3
            have dd4 := zf.cell 4
            have dd5 := zf.cell 5
            simp at dd0 dd1 dd2 dd3 dd4 dd5
            refine bodyPost_ret (v := .agg #[.int .i64 (2 + (x : Int)), .int .i64 2, .int .i64 1, (.slice none 0 0), (.slice va2 es.length vc2), .slice va3 ats.length vc3]) (by simp [results, Try.f58, go_sem, dd0, dd1, dd2, dd3, dd4, dd5]) rfl ?_
            exact drawn_end HK.out ⟨2 + (x : Int), 2, 1, [], es, ats⟩ rfl rfl rfl hbz (fin.out ats has) _ _ _ _ _ _
end
end Go.Proofs.Ytgcmpimckpnemaa
