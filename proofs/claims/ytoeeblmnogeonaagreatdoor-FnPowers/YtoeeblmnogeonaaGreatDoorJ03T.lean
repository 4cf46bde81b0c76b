/-
  Joined: MarkIno, Kept, MarkG, El.
-/
import Derived.Test.YtoeeblmnogeonaaGreatDoorJ02T
import Derived.Lib.ConvBytes
import Derived.Deep.RegionHeld3
import Derived.Deep.AppendLies
namespace Go.Proofs.YtoeeblmnogeonaaGreatDoor
section
open Go.RowKit
theorem row_at {e : TypeId} {B s n : Nat} {w : World} {v : Value} {xs : List Value} (h : w.ownsRow B e s v n xs) {g : Nat} (hg : v.ownBlock = some g) : B ≤ g ∧ ∃ cur, w.heap[g]? = some (.cells cur e (0, 0)) := by
  rcases h.2 with ⟨rfl, _⟩ | ⟨g', cap, cur, rfl, hb, hgg, _⟩
  · simp [Value.ownBlock] at hg
  · simp [Value.ownBlock] at hg
    subst hg
    exact ⟨hb, cur, hgg⟩
/-- A row is as it was where only another one grew. -/
theorem row_kept {e : TypeId} {B s n : Nat} {w w' : World} {v : Value} {xs : List Value} (h : w.ownsRow B e s v n xs) {r : Option Nat} (hg : w.grownBy w' r) (hne : ∀ g, v.ownBlock = some g → r ≠ some g) : w'.ownsRow B e s v n xs := by
  refine ⟨h.1, ?_⟩
  rcases h.2 with h' | ⟨g', cap, cur, rfl, hb, hgg, rest⟩
  · exact .inl h'
  · exact .inr ⟨g', cap, cur, rfl, hb, (hg.block g' (Array.getElem?_eq_some_iff.1 hgg).1 (fun e => hne g' rfl e.symm)).trans hgg, rest⟩
/-- All blocks but the three rows are as they were. -/
structure But (w w' : World) (r1 r2 r3 : Option Nat) : Prop where
  os : w'.os = w.os
  tape : w'.tape = w.tape
  output : w'.output = w.output
  size : w.heap.size ≤ w'.heap.size
  block : ∀ k, k < w.heap.size → some k ≠ r1 → some k ≠ r2 → some k ≠ r3 → w'.heap[k]? = w.heap[k]?
theorem OwnV.keep {B : Nat} {w w' : World} {v : Value} {n : Nat} {zs : List Int} (h : OwnV B w v n zs) (hb : Below w.heap.size w w') : OwnV B w' v n zs := by
  refine ⟨h.1, ?_⟩
  rcases h.2 with h' | ⟨g', cap', cur, h', hb', hgg, rest⟩
  · exact .inl h'
  · exact .inr ⟨g', cap', cur, h', hb', (hb.block g' (Array.getElem?_eq_some_iff.1 hgg).1).trans hgg, rest⟩
end

section
open Go.RowKit
theorem Blk.newAt {W : World} {ad : Nat} {t : TypeId} {vs : Array Value} (h : ad = W.heap.size) : Blk (W.alloc (.cells vs t)) ad t vs := by subst h; exact Blk.new W t vs
theorem OwnV.drew {B : Nat} {w : World} {v : Value} {n : Nat} {zs : List Int} (h : OwnV B w v n zs) : OwnV B w.drew v n zs := h
theorem Blk.drew {w : World} {B : Nat} {t : TypeId} {vs : Array Value} (h : Blk w B t vs) : Blk w.drew B t vs := h
theorem Kp.drew {w w' : World} (h : Kp w w') : Kp w w'.drew := h
/-- The bytes behind a text that was turned into a list of its own: of the block's cells the first are zs, none of them held fast. -/
def OwnB (W : World) (g n : Nat) (zs : List Int) : Prop :=
  zs.length = n ∧ ∃ cur fr, W.heap[g]? = some (.cells cur 5 fr) ∧ n ≤ cur.size ∧ (∀ i, i < n → cur[i]? = some (.int .u8 (zs.getD i 0))) ∧ n ≤ fr.1
theorem OwnB.lt {W : World} {g n : Nat} {zs : List Int} (h : OwnB W g n zs) : g < W.heap.size := by
  obtain ⟨_, cur, fr, hg, _⟩ := h
  exact (Array.getElem?_eq_some_iff.1 hg).1
theorem OwnB.cell {W : World} {g n : Nat} {zs : List Int} (h : OwnB W g n zs) (i : Nat) (hi : i < n) : W.cell? ⟨g, i, none⟩ = some (.int .u8 (zs.getD i 0)) := by
  obtain ⟨_, cur, fr, hg, _, hc, _⟩ := h
  rw [cell_of_row W g i cur 5 fr hg]
  exact hc i hi
theorem OwnB.rd {W : World} {g n : Nat} {zs : List Int} (h : OwnB W g n zs) : Rd W (some ⟨g, 0, none⟩) zs := by
  refine .inr ⟨g, 0, rfl, fun i hi => ?_⟩
  rw [Nat.zero_add]
  exact h.cell i (by rw [← h.1]; exact hi)
theorem OwnB.block {W W' : World} {g n : Nat} {zs : List Int} (h : OwnB W g n zs) (hb : W'.heap[g]? = W.heap[g]?) : OwnB W' g n zs := by
  obtain ⟨hl, cur, fr, hg, rest⟩ := h
  exact ⟨hl, cur, fr, hb.trans hg, rest⟩
theorem OwnB.keep {W W' : World} {g n : Nat} {zs : List Int} (h : OwnB W g n zs) (hb : Below W.heap.size W W') : OwnB W' g n zs := h.block (hb.block g h.lt)
theorem OwnB.kept {W W' : World} {g n : Nat} {zs : List Int} (h : OwnB W g n zs) {r : Option Nat} (hg : W.grownBy W' r) (hne : some g ≠ r) : OwnB W' g n zs := h.block (hg.block g h.lt hne)
/-- All blocks of these types are as they were. -/
def KpT (W W' : World) (ts : List TypeId) : Prop := ∀ (B : Nat) (cur : Array Value) (t : TypeId) (fr : Nat × Nat), W.heap[B]? = some (Obj.cells cur t fr) → t ∈ ts → W'.heap[B]? = W.heap[B]?
theorem KpT.below {W W' : World} (h : Below W.heap.size W W') (ts : List TypeId) : KpT W W' ts := fun B _ _ _ hB _ => h.block B (Array.getElem?_eq_some_iff.1 hB).1
theorem KpT.grown {W W' : World} {R : Nat} {t : TypeId} {vs : Array Value} {ts : List TypeId} (h : W.grownBy W' (some R)) (hb : Blk W R t vs) (ht : t ∉ ts) : KpT W W' ts := fun B cur t' fr hB hm => h.block B (Array.getElem?_eq_some_iff.1 hB).1 (fun e => by
  simp at e
  subst e
  rw [show W.heap[B]? = _ from hb] at hB
  simp at hB
  exact ht (by rw [hB.2.1]; exact hm))
theorem KpT.row {W W' : World} {v : Value} {e : TypeId} {B s n : Nat} {xs : List Value} {ts : List TypeId} (h : W.grownBy W' v.ownBlock) (ho : W.ownsRow B e s v n xs) (ht : e ∉ ts) : KpT W W' ts := fun b cur t' fr hB hm => h.block b (Array.getElem?_eq_some_iff.1 hB).1 (fun q => by
  obtain ⟨_, c, hc⟩ := row_at ho q.symm
  rw [hc] at hB
  simp at hB
  exact ht (by rw [hB.2.1]; exact hm))
theorem KpT.but {W W' : World} {r1 r2 : Nat} {t1 t2 : TypeId} {u1 u2 : Array Value} {ts : List TypeId} (h : But W W' (some r1) (some r2) none) (h1 : Blk W r1 t1 u1) (h2 : Blk W r2 t2 u2) (n1 : t1 ∉ ts) (n2 : t2 ∉ ts) : KpT W W' ts := fun B cur t' fr hB hm => by
  refine h.block B (Array.getElem?_eq_some_iff.1 hB).1 (fun e => ?_) (fun e => ?_) (by simp)
  · simp at e
    subst e
    rw [show W.heap[B]? = _ from h1] at hB
    simp at hB
    exact n1 (by rw [hB.2.1]; exact hm)
  · simp at e
    subst e
    rw [show W.heap[B]? = _ from h2] at hB
    simp at hB
    exact n2 (by rw [hB.2.1]; exact hm)
theorem Blk.kp {W W' : World} {B : Nat} {t : TypeId} {vs : Array Value} {ts : List TypeId} (h : Blk W B t vs) (k : KpT W W' ts) (ht : t ∈ ts) : Blk W' B t vs := (k B _ _ _ h ht).trans h
theorem OwnB.kp {W W' : World} {g n : Nat} {zs : List Int} {ts : List TypeId} (h : OwnB W g n zs) (k : KpT W W' ts) (ht : 5 ∈ ts) : OwnB W' g n zs := by
  have h' := h
  obtain ⟨_, cur, fr, hg, _⟩ := h'
  exact h.block (k g _ _ _ hg ht)
theorem pair_news (w : World) (p : VP) (t : TypeId) : ∀ j u, [p.1, p.2][j]? = some u → (w.alloc (.cells #[p.1, p.2] t)).cell? ((⟨w.heap.size, 0, none⟩ : Addr).add j) = some u := by
  intro j u hj
  rw [add_at, (Blk.new w t #[p.1, p.2]).cell j]
  match j, hj with
  | 0, hj => simpa using hj
  | 1, hj => simpa using hj
  | j + 2, hj => simp at hj
end

section
open Go.RowKit
/-- A list of bytes: nil, or the first n cells of a block, none of them held fast. -/
def RowB (w : World) (v : Value) (n : Nat) (zs : List Int) : Prop :=
  zs.length = n ∧ ((v = .slice none 0 0 ∧ n = 0) ∨ ∃ (g c : Nat) (cur : Array Value) (fr : Nat × Nat), v = .slice (some ⟨g, 0, none⟩) n c ∧ w.heap[g]? = some (.cells cur 5 fr) ∧ n ≤ cur.size ∧ (∀ i, i < n → cur[i]? = some (.int .u8 (zs.getD i 0))) ∧ (n ≤ fr.1 ∨ fr.2 = 0))
theorem RowB.nil (w : World) : RowB w (.slice none 0 0) 0 [] := ⟨rfl, .inl ⟨rfl, rfl⟩⟩
theorem OwnV.rowB {B : Nat} {w : World} {v : Value} {n : Nat} {zs : List Int} (h : OwnV B w v n zs) : RowB w v n zs := by
  have hl := h.len
  refine ⟨hl, ?_⟩
  rcases h.2 with h' | ⟨g, cap, cur, rfl, _, hg, hsz, hc⟩
  · exact .inl h'
  · have hcell := fun (i : Nat) (hi : i < n) => World.ownsRow.cellAt h i (by omega)
    have hcur : ∀ i : Nat, i < n → cur[i]? = Option.some (Value.int .u8 (zs.getD i 0)) := fun i hi => by
      have h2 := hcell i hi
      rw [cell_of_row w g i cur 5 (0, 0) hg] at h2
      rw [h2]
      have hz : i < zs.length := by omega
      simp [hz]
    refine .inr ⟨g, cap, cur, (0, 0), rfl, hg, ?_, hcur, .inr rfl⟩
    by_cases h0 : n = 0
    · omega
    · have h2 := hcur (n - 1) (by omega)
      have := (Array.getElem?_eq_some_iff.1 h2).1
      omega
theorem RowB.cell {w : World} {g c n : Nat} {zs : List Int} (h : RowB w (.slice (some ⟨g, 0, none⟩) n c) n zs) (i : Nat) (hi : i < n) : w.cell? ⟨g, i, none⟩ = some (.int .u8 (zs.getD i 0)) ∧ w.frozen? ⟨g, i, none⟩ = false := by
  rcases h.2 with ⟨h1, _⟩ | ⟨g', c', cur, fr, h1, hg, hsz, hc, hf⟩
  · simp at h1
  · simp only [Value.slice.injEq, Option.some.injEq, Addr.mk.injEq, and_true, true_and] at h1
    obtain ⟨rfl, rfl⟩ := h1
    rw [cell_of_row w g i cur 5 fr hg]
    refine ⟨hc i hi, ?_⟩
    obtain ⟨lo, hi'⟩ := fr
    simp only [World.frozen?, hg]
    simp only at hf
    rcases hf with hf | hf
    · have : ¬ lo ≤ i := by omega
      simp [this]
    · subst hf
      simp
theorem RowB.stored {w : World} {g c n : Nat} {zs : List Int} (h : RowB w (.slice (some ⟨g, 0, none⟩) n c) n zs) (k : Nat) (z : Int) (hk : k < n) : RowB (w.setCell ⟨g, k, none⟩ (.int .u8 z)) (.slice (some ⟨g, 0, none⟩) n c) n (zs.set k z) := by
  have hl := h.1
  refine ⟨by simpa using hl, ?_⟩
  rcases h.2 with ⟨h1, _⟩ | ⟨g', c', cur, fr, h1, hg, hsz, hc, hf⟩
  · simp at h1
  · simp only [Value.slice.injEq, Option.some.injEq, Addr.mk.injEq, and_true, true_and] at h1
    obtain ⟨rfl, rfl⟩ := h1
    refine .inr ⟨g, c, cur.setIfInBounds k (.int .u8 z), fr, rfl, by simp [World.setCell, Array.getElem?_modify, hg], by simpa using hsz, fun i hi => ?_, hf⟩
    by_cases e : k = i
    · subst e
      have hk2 : k < cur.size := by omega
      have hk3 : k < zs.length := by omega
      simp [hk2, hk3]
    · rw [Array.getElem?_setIfInBounds_ne e, hc i hi]
      simp [List.getD_eq_getElem?_getD, List.getElem?_set_ne e]
theorem RowB.block {w w' : World} {v : Value} {n : Nat} {zs : List Int} (h : RowB w v n zs) (hb : ∀ g, v.ownBlock = some g → w'.heap[g]? = w.heap[g]?) : RowB w' v n zs := by
  refine ⟨h.1, ?_⟩
  rcases h.2 with h1 | ⟨g, c, cur, fr, rfl, hg, rest⟩
  · exact .inl h1
  · exact .inr ⟨g, c, cur, fr, rfl, (hb g rfl).trans hg, rest⟩
theorem RowB.at_ {w : World} {v : Value} {n g : Nat} {zs : List Int} (h : RowB w v n zs) (hv : v.ownBlock = some g) : g < w.heap.size ∧ ∃ cur fr, w.heap[g]? = some (.cells cur 5 fr) := by
  rcases h.2 with ⟨rfl, _⟩ | ⟨g', c, cur, fr, rfl, hg, _⟩
  · simp [Value.ownBlock] at hv
  · simp [Value.ownBlock] at hv
    subst hv
    exact ⟨(Array.getElem?_eq_some_iff.1 hg).1, cur, fr, hg⟩
theorem RowB.form {w : World} {v : Value} {n : Nat} {zs : List Int} (h : RowB w v n zs) : ∃ a c, v = .slice a n c ∧ Rd w a zs := by
  have hl := h.1
  rcases h.2 with ⟨rfl, rfl⟩ | ⟨g, c, cur, fr, rfl, hg, _, hc, _⟩
  · exact ⟨none, 0, rfl, .inl (List.length_eq_zero_iff.1 hl)⟩
  · refine ⟨some ⟨g, 0, none⟩, c, rfl, .inr ⟨g, 0, rfl, fun i hi => ?_⟩⟩
    rw [Nat.zero_add, cell_of_row w g i cur 5 fr hg]
    exact hc i (by omega)
end

section
open Go.RowKit
/-- How an element of a row is laid into cells. -/
structure El (α : Type) where
  k : Nat
  pos : 0 < k
  en : α → List Value
  len : ∀ r, (en r).length = k
def El.xv {α : Type} (E : El α) (rs : List α) : List Value := rs.flatMap E.en
theorem El.xv_cons {α : Type} (E : El α) (r : α) (rs : List α) : E.xv (r :: rs) = E.en r ++ E.xv rs := rfl
theorem El.xv_append {α : Type} (E : El α) (rs ts : List α) : E.xv (rs ++ ts) = E.xv rs ++ E.xv ts := by simp [El.xv]
theorem El.xv_length {α : Type} (E : El α) (rs : List α) : (E.xv rs).length = rs.length * E.k := by
  induction rs with
  | nil => simp [El.xv]
  | cons r rs ih => rw [E.xv_cons, List.length_append, ih, E.len, List.length_cons, Nat.add_mul, Nat.one_mul, Nat.add_comm]
theorem El.xv_at {α : Type} (E : El α) (rs : List α) (i j : Nat) (r : α) (h : rs[i]? = some r) (hj : j < E.k) : (E.xv rs)[i * E.k + j]? = (E.en r)[j]? := by
  induction rs generalizing i with
  | nil => simp at h
  | cons q rs ih =>
    rw [E.xv_cons]
    have hl := E.len q
    cases i with
    | zero =>
      simp at h
      subst h
      rw [List.getElem?_append_left (by rw [hl]; simpa using hj), Nat.zero_mul, Nat.zero_add]
    | succ i =>
      have e : (i + 1) * E.k + j = E.k + (i * E.k + j) := by rw [Nat.add_mul, Nat.one_mul]; omega
      rw [List.getElem?_append_right (by rw [hl, e]; omega), hl, e, Nat.add_sub_cancel_left]
      exact ih i (by simpa using h)
theorem El.xv_set {α : Type} (E : El α) (rs : List α) (i j : Nat) (r r' : α) (x : Value) (h : rs[i]? = some r) (hj : j < E.k) (he : E.en r' = (E.en r).set j x) : (E.xv rs).set (i * E.k + j) x = E.xv (rs.set i r') := by
  induction rs generalizing i with
  | nil => simp at h
  | cons q rs ih =>
    have hl := E.len q
    cases i with
    | zero =>
      simp at h
      subst h
      rw [E.xv_cons, List.set_cons_zero, E.xv_cons, he, Nat.zero_mul, Nat.zero_add, List.set_append_left _ _ (by rw [hl]; exact hj)]
    | succ i =>
      have e : (i + 1) * E.k + j = E.k + (i * E.k + j) := by rw [Nat.add_mul, Nat.one_mul]; omega
      rw [E.xv_cons, List.set_cons_succ, E.xv_cons, List.set_append_right _ _ (by rw [hl, e]; omega), hl, e, Nat.add_sub_cancel_left, ih i (by simpa using h)]
/-- The elements rs can be read from the address a on; 'rd' is asked of each. -/
def RdE {α : Type} (E : El α) (rd : α → Prop) (w : World) (a : Option Addr) (rs : List α) : Prop :=
  rs = [] ∨ ∃ b off, a = some ⟨b, off, none⟩ ∧ ∀ i r, rs[i]? = some r → (∀ j, j < E.k → w.cell? ⟨b, off + i * E.k + j, none⟩ = (E.en r)[j]?) ∧ rd r
theorem RdE.lt {α : Type} {E : El α} {rd : α → Prop} {w : World} {a : Option Addr} {rs : List α} (h : RdE E rd w a rs) (hz : rs ≠ []) : ∃ b off, a = some ⟨b, off, none⟩ ∧ b < w.heap.size ∧ ∀ i r, rs[i]? = some r → (∀ j, j < E.k → w.cell? ⟨b, off + i * E.k + j, none⟩ = (E.en r)[j]?) ∧ rd r := by
  rcases h with h | ⟨b, off, rfl, hc⟩
  · exact absurd h hz
  · obtain ⟨r, l, rfl⟩ := List.exists_cons_of_ne_nil hz
    have := (hc 0 r rfl).1 0 E.pos
    have hl := E.len r
    have hp := E.pos
    rw [List.getElem?_eq_getElem (by omega)] at this
    exact ⟨b, off, rfl, World.block_lt_of_cell? w _ this, hc⟩
theorem RdE.mono {α : Type} {E : El α} {rd rd' : α → Prop} {w w' : World} {a : Option Addr} {rs : List α} (h : RdE E rd w a rs) (hb : Below w.heap.size w w') (hr : ∀ r, r ∈ rs → rd r → rd' r) : RdE E rd' w' a rs := by
  by_cases hz : rs = []
  · exact .inl hz
  · obtain ⟨b, off, rfl, hlt, hc⟩ := h.lt hz
    exact .inr ⟨b, off, rfl, fun i r hi => ⟨fun j hj => (hb.cell (p := ⟨b, off + i * E.k + j, none⟩) hlt).trans ((hc i r hi).1 j hj), hr r (List.mem_of_getElem? hi) (hc i r hi).2⟩⟩
theorem RdE.each {α : Type} {E : El α} {rd : α → Prop} {w : World} {a : Option Addr} {rs : List α} (h : RdE E rd w a rs) : ∀ r ∈ rs, rd r := fun r hr => by
  rcases h with rfl | ⟨b, off, rfl, hc⟩
  · simp at hr
  · obtain ⟨i, hi⟩ := List.mem_iff_getElem?.1 hr
    exact (hc i r hi).2
/-- v is a row of the call's own (or nil) of these elements. -/
def OwnE {α : Type} (E : El α) (ty : TypeId) (w : World) (v : Value) (n : Nat) (rs : List α) : Prop := w.ownsRow 0 ty E.k v n (E.xv rs)
theorem OwnE.len {α : Type} {E : El α} {ty : TypeId} {w : World} {v : Value} {n : Nat} {rs : List α} (h : OwnE E ty w v n rs) : rs.length = n := by
  have := h.1
  rw [E.xv_length] at this
  exact Nat.eq_of_mul_eq_mul_right E.pos this
theorem OwnE.cases {α : Type} {E : El α} {ty : TypeId} {w : World} {v : Value} {n : Nat} {rs : List α} (h : OwnE E ty w v n rs) : (v = .slice none 0 0 ∧ n = 0 ∧ rs = []) ∨ ∃ g c, v = .slice (some ⟨g, 0, none⟩) n c ∧ g < w.heap.size := by
  have hl := h.len
  rcases h.2 with ⟨rfl, rfl⟩ | ⟨g, cap, cur, rfl, _, hg, _⟩
  · exact .inl ⟨rfl, rfl, List.length_eq_zero_iff.1 hl⟩
  · exact .inr ⟨g, cap, rfl, (Array.getElem?_eq_some_iff.1 hg).1⟩
theorem OwnE.block {α : Type} {E : El α} {ty : TypeId} {w w' : World} {v : Value} {n : Nat} {rs : List α} (h : OwnE E ty w v n rs) (hb : ∀ g, v.ownBlock = some g → w'.heap[g]? = w.heap[g]?) : OwnE E ty w' v n rs := by
  refine ⟨h.1, ?_⟩
  rcases h.2 with h' | ⟨g', cap, cur, rfl, hb', hgg, rest⟩
  · exact .inl h'
  · exact .inr ⟨g', cap, cur, rfl, hb', (hb g' rfl).trans hgg, rest⟩
theorem OwnE.lt {α : Type} {E : El α} {ty : TypeId} {w : World} {v : Value} {n g : Nat} {rs : List α} (h : OwnE E ty w v n rs) (hg : v.ownBlock = some g) : g < w.heap.size := by
  rcases h.2 with ⟨rfl, _⟩ | ⟨g', cap, cur, rfl, _, hgg, _⟩
  · simp [Value.ownBlock] at hg
  · simp [Value.ownBlock] at hg
    subst hg
    exact (Array.getElem?_eq_some_iff.1 hgg).1
theorem OwnE.keep {α : Type} {E : El α} {ty : TypeId} {w w' : World} {v : Value} {n : Nat} {rs : List α} (h : OwnE E ty w v n rs) (hb : Below w.heap.size w w') : OwnE E ty w' v n rs := h.block fun g hg => hb.block g (h.lt hg)
theorem OwnE.frozen {α : Type} {E : El α} {ty : TypeId} {w : World} {g c n : Nat} {rs : List α} (h : OwnE E ty w (.slice (some ⟨g, 0, none⟩) n c) n rs) (i : Nat) : w.frozen? ⟨g, i, none⟩ = false := World.ownsRow.frozenAt h i
theorem OwnE.cell {α : Type} {E : El α} {ty : TypeId} {w : World} {g c n : Nat} {rs : List α} (h : OwnE E ty w (.slice (some ⟨g, 0, none⟩) n c) n rs) (i j : Nat) (r : α) (hi : rs[i]? = some r) (hj : j < E.k) : w.cell? ⟨g, i * E.k + j, none⟩ = (E.en r)[j]? := by
  have h1 := E.xv_at rs i j r hi hj
  rw [List.getElem?_eq_getElem (show j < (E.en r).length by rw [E.len]; exact hj)] at h1 ⊢
  have h2 := World.ownsRow.cells h (g := g) rfl (i * E.k + j) _ h1
  rw [add_at] at h2
  exact h2
theorem OwnE.set {α : Type} {E : El α} {ty : TypeId} {w : World} {g c n : Nat} {rs : List α} (h : OwnE E ty w (.slice (some ⟨g, 0, none⟩) n c) n rs) (i j : Nat) (r r' : α) (x : Value) (hi : rs[i]? = some r) (hj : j < E.k) (he : E.en r' = (E.en r).set j x) : OwnE E ty (w.setCell ⟨g, i * E.k + j, none⟩ x) (.slice (some ⟨g, 0, none⟩) n c) n (rs.set i r') := by
  have := (World.ownsRow.stored h (i * E.k + j) x).1
  rw [E.xv_set rs i j r r' x hi hj he] at this
  exact this
theorem OwnE.rd {α : Type} {E : El α} {ty : TypeId} {w : World} {v : Value} {n : Nat} {rs : List α} {rd : α → Prop} (h : OwnE E ty w v n rs) (hr : ∀ r ∈ rs, rd r) : ∃ a c, v = .slice a n c ∧ RdE E rd w a rs := by
  rcases h.cases with ⟨rfl, rfl, rfl⟩ | ⟨g, c, rfl, _⟩
  · exact ⟨none, 0, rfl, .inl rfl⟩
  · refine ⟨_, c, rfl, .inr ⟨g, 0, rfl, fun i r hi => ⟨fun j hj => ?_, hr r (List.mem_of_getElem? hi)⟩⟩⟩
    rw [Nat.zero_add]
    exact h.cell i j r hi hj
theorem ownE_nil {α : Type} (E : El α) (ty : TypeId) (w : World) : OwnE E ty w (.slice none 0 0) 0 [] := ⟨by simp [El.xv], .inl ⟨rfl, rfl⟩⟩
/-- All blocks but those of F are as they were. -/
structure Sv (F : List Nat) (w w' : World) : Prop where
  os : w'.os = w.os
  tape : w'.tape = w.tape
  output : w'.output = w.output
  size : w.heap.size ≤ w'.heap.size
  block : ∀ k, k < w.heap.size → k ∉ F → w'.heap[k]? = w.heap[k]?
theorem Sv.refl (F : List Nat) (w : World) : Sv F w w := ⟨rfl, rfl, rfl, Nat.le_refl _, fun _ _ _ => rfl⟩
theorem Sv.trans {F : List Nat} {a b c : World} (h : Sv F a b) (k : Sv F b c) : Sv F a c :=
  ⟨k.os.trans h.os, k.tape.trans h.tape, k.output.trans h.output, Nat.le_trans h.size k.size, fun i hi ho => (k.block i (Nat.lt_of_lt_of_le hi h.size) ho).trans (h.block i hi ho)⟩
theorem Sv.wider {F F' : List Nat} {a b : World} (h : Sv F a b) (h1 : ∀ g ∈ F, g ∈ F') : Sv F' a b :=
  ⟨h.os, h.tape, h.output, h.size, fun i hi ho => h.block i hi (fun hf => ho (h1 i hf))⟩
theorem Below.sv {a b : World} (h : Below a.heap.size a b) (F : List Nat) : Sv F a b := ⟨h.os, h.tape, h.output, h.size, fun k hk _ => h.block k hk⟩
theorem Sv.gr {F : List Nat} {a b : World} {r : Option Nat} (h : a.grownBy b r) (hr : ∀ g, r = some g → g ∈ F) : Sv F a b :=
  ⟨h.os, h.tape, h.output, h.size, fun k hk ho => h.block k hk (fun e => ho (hr k e.symm))⟩
theorem Below.svs {H : Nat} {F : List Nat} {w0 w w' : World} (h : Below H w0 w) (k : Sv F w w') (hF : ∀ g ∈ F, H ≤ g) (hH : H ≤ w0.heap.size) : Below H w0 w' :=
  ⟨k.os.trans h.os, k.tape.trans h.tape, k.output.trans h.output, Nat.le_trans h.size k.size, fun i hi => (k.block i (Nat.lt_of_lt_of_le hi (Nat.le_trans hH h.size)) (fun hf => by have := hF i hf; omega)).trans (h.block i hi)⟩
theorem Blk.svs {W W' : World} {b : Nat} {F : List Nat} {t : TypeId} {vs : Array Value} (h : Blk W b t vs) (k : Sv F W W') (hb : b ∉ F) : Blk W' b t vs := (k.block b h.lt hb).trans h
end
end Go.Proofs.YtoeeblmnogeonaaGreatDoor
