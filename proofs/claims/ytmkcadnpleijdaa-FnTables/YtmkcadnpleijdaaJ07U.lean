/-
  Joined: El, ToTab.
-/
import Derived.Test.YtmkcadnpleijdaaJ06U
import Derived.Test.YtmkcadnpleijdaaJ04U
namespace Go.Proofs.Ytmkcadnpleijdaa
section
open Go.RowKit
/-- How an element of a row is laid into cells. -/
structure El (α : Type) where
  k : Nat
  pos : 0 < k
  en : α → List Value
  len : ∀ r, (en r).length = k
def El.xv {α : Type} (E : El α) (rs : List α) : List Value := rs.flatMap E.en
theorem El.xv_cons {α : Type} (E : El α) (r : α) (rs : List α) : E.xv (r :: rs) = E.en r ++ E.xv rs := rfl
theorem El.xv_append {α : Type} (E : El α) (rs ts : List α) : E.xv (rs ++ ts) = E.xv rs ++ E.xv ts := by simp [El.xv]
theorem El.xv_length {α : Type} (E : El α) (rs : List α) : (E.xv rs).length = rs.length * E.k := by
  induction rs with
  | nil => simp [El.xv]
  | cons r rs ih => rw [E.xv_cons, List.length_append, ih, E.len, List.length_cons, Nat.add_mul, Nat.one_mul, Nat.add_comm]
theorem El.xv_at {α : Type} (E : El α) (rs : List α) (i j : Nat) (r : α) (h : rs[i]? = some r) (hj : j < E.k) : (E.xv rs)[i * E.k + j]? = (E.en r)[j]? := by
  induction rs generalizing i with
  | nil => simp at h
  | cons q rs ih =>
    rw [E.xv_cons]
    have hl := E.len q
    cases i with
    | zero =>
      simp at h
      subst h
      rw [List.getElem?_append_left (by rw [hl]; simpa using hj), Nat.zero_mul, Nat.zero_add]
    | succ i =>
      have e : (i + 1) * E.k + j = E.k + (i * E.k + j) := by rw [Nat.add_mul, Nat.one_mul]; omega
      rw [List.getElem?_append_right (by rw [hl, e]; omega), hl, e, Nat.add_sub_cancel_left]
      exact ih i (by simpa using h)
theorem El.xv_set {α : Type} (E : El α) (rs : List α) (i j : Nat) (r r' : α) (x : Value) (h : rs[i]? = some r) (hj : j < E.k) (he : E.en r' = (E.en r).set j x) : (E.xv rs).set (i * E.k + j) x = E.xv (rs.set i r') := by
  induction rs generalizing i with
  | nil => simp at h
  | cons q rs ih =>
    have hl := E.len q
    cases i with
    | zero =>
      simp at h
      subst h
      rw [E.xv_cons, List.set_cons_zero, E.xv_cons, he, Nat.zero_mul, Nat.zero_add, List.set_append_left _ _ (by rw [hl]; exact hj)]
    | succ i =>
      have e : (i + 1) * E.k + j = E.k + (i * E.k + j) := by rw [Nat.add_mul, Nat.one_mul]; omega
      rw [E.xv_cons, List.set_cons_succ, E.xv_cons, List.set_append_right _ _ (by rw [hl, e]; omega), hl, e, Nat.add_sub_cancel_left, ih i (by simpa using h)]
/-- The elements rs can be read from the address a on; 'rd' is asked of each. -/
def RdE {α : Type} (E : El α) (rd : α → Prop) (w : World) (a : Option Addr) (rs : List α) : Prop :=
  rs = [] ∨ ∃ b off, a = some ⟨b, off, none⟩ ∧ ∀ i r, rs[i]? = some r → (∀ j, j < E.k → w.cell? ⟨b, off + i * E.k + j, none⟩ = (E.en r)[j]?) ∧ rd r
theorem RdE.lt {α : Type} {E : El α} {rd : α → Prop} {w : World} {a : Option Addr} {rs : List α} (h : RdE E rd w a rs) (hz : rs ≠ []) : ∃ b off, a = some ⟨b, off, none⟩ ∧ b < w.heap.size ∧ ∀ i r, rs[i]? = some r → (∀ j, j < E.k → w.cell? ⟨b, off + i * E.k + j, none⟩ = (E.en r)[j]?) ∧ rd r := by
  rcases h with h | ⟨b, off, rfl, hc⟩
  · exact absurd h hz
  · obtain ⟨r, l, rfl⟩ := List.exists_cons_of_ne_nil hz
    have := (hc 0 r rfl).1 0 E.pos
    have hl := E.len r
    have hp := E.pos
    rw [List.getElem?_eq_getElem (by omega)] at this
    exact ⟨b, off, rfl, World.block_lt_of_cell? w _ this, hc⟩
theorem RdE.mono {α : Type} {E : El α} {rd rd' : α → Prop} {w w' : World} {a : Option Addr} {rs : List α} (h : RdE E rd w a rs) (hb : Below w.heap.size w w') (hr : ∀ r, r ∈ rs → rd r → rd' r) : RdE E rd' w' a rs := by
  by_cases hz : rs = []
  · exact .inl hz
  · obtain ⟨b, off, rfl, hlt, hc⟩ := h.lt hz
    exact .inr ⟨b, off, rfl, fun i r hi => ⟨fun j hj => (hb.cell (p := ⟨b, off + i * E.k + j, none⟩) hlt).trans ((hc i r hi).1 j hj), hr r (List.mem_of_getElem? hi) (hc i r hi).2⟩⟩
theorem RdE.each {α : Type} {E : El α} {rd : α → Prop} {w : World} {a : Option Addr} {rs : List α} (h : RdE E rd w a rs) : ∀ r ∈ rs, rd r := fun r hr => by
  rcases h with rfl | ⟨b, off, rfl, hc⟩
  · simp at hr
  · obtain ⟨i, hi⟩ := List.mem_iff_getElem?.1 hr
    exact (hc i r hi).2
/-- v is a row of the call's own (or nil) of these elements. -/
def OwnE {α : Type} (E : El α) (ty : TypeId) (w : World) (v : Value) (n : Nat) (rs : List α) : Prop := w.ownsRow 0 ty E.k v n (E.xv rs)
theorem OwnE.len {α : Type} {E : El α} {ty : TypeId} {w : World} {v : Value} {n : Nat} {rs : List α} (h : OwnE E ty w v n rs) : rs.length = n := by
  have := h.1
  rw [E.xv_length] at this
  exact Nat.eq_of_mul_eq_mul_right E.pos this
theorem OwnE.cases {α : Type} {E : El α} {ty : TypeId} {w : World} {v : Value} {n : Nat} {rs : List α} (h : OwnE E ty w v n rs) : (v = .slice none 0 0 ∧ n = 0 ∧ rs = []) ∨ ∃ g c, v = .slice (some ⟨g, 0, none⟩) n c ∧ g < w.heap.size := by
  have hl := h.len
  rcases h.2 with ⟨rfl, rfl⟩ | ⟨g, cap, cur, rfl, _, hg, _⟩
  · exact .inl ⟨rfl, rfl, List.length_eq_zero_iff.1 hl⟩
  · exact .inr ⟨g, cap, rfl, (Array.getElem?_eq_some_iff.1 hg).1⟩
theorem OwnE.block {α : Type} {E : El α} {ty : TypeId} {w w' : World} {v : Value} {n : Nat} {rs : List α} (h : OwnE E ty w v n rs) (hb : ∀ g, v.ownBlock = some g → w'.heap[g]? = w.heap[g]?) : OwnE E ty w' v n rs := by
  refine ⟨h.1, ?_⟩
  rcases h.2 with h' | ⟨g', cap, cur, rfl, hb', hgg, rest⟩
  · exact .inl h'
  · exact .inr ⟨g', cap, cur, rfl, hb', (hb g' rfl).trans hgg, rest⟩
theorem OwnE.lt {α : Type} {E : El α} {ty : TypeId} {w : World} {v : Value} {n g : Nat} {rs : List α} (h : OwnE E ty w v n rs) (hg : v.ownBlock = some g) : g < w.heap.size := by
  rcases h.2 with ⟨rfl, _⟩ | ⟨g', cap, cur, rfl, _, hgg, _⟩
  · simp [Value.ownBlock] at hg
  · simp [Value.ownBlock] at hg
    subst hg
    exact (Array.getElem?_eq_some_iff.1 hgg).1
theorem OwnE.keep {α : Type} {E : El α} {ty : TypeId} {w w' : World} {v : Value} {n : Nat} {rs : List α} (h : OwnE E ty w v n rs) (hb : Below w.heap.size w w') : OwnE E ty w' v n rs := h.block fun g hg => hb.block g (h.lt hg)
theorem OwnE.frozen {α : Type} {E : El α} {ty : TypeId} {w : World} {g c n : Nat} {rs : List α} (h : OwnE E ty w (.slice (some ⟨g, 0, none⟩) n c) n rs) (i : Nat) : w.frozen? ⟨g, i, none⟩ = false := World.ownsRow.frozenAt h i
theorem OwnE.cell {α : Type} {E : El α} {ty : TypeId} {w : World} {g c n : Nat} {rs : List α} (h : OwnE E ty w (.slice (some ⟨g, 0, none⟩) n c) n rs) (i j : Nat) (r : α) (hi : rs[i]? = some r) (hj : j < E.k) : w.cell? ⟨g, i * E.k + j, none⟩ = (E.en r)[j]? := by
  have h1 := E.xv_at rs i j r hi hj
  rw [List.getElem?_eq_getElem (show j < (E.en r).length by rw [E.len]; exact hj)] at h1 ⊢
  have h2 := World.ownsRow.cells h (g := g) rfl (i * E.k + j) _ h1
  rw [add_at] at h2
  exact h2
theorem OwnE.set {α : Type} {E : El α} {ty : TypeId} {w : World} {g c n : Nat} {rs : List α} (h : OwnE E ty w (.slice (some ⟨g, 0, none⟩) n c) n rs) (i j : Nat) (r r' : α) (x : Value) (hi : rs[i]? = some r) (hj : j < E.k) (he : E.en r' = (E.en r).set j x) : OwnE E ty (w.setCell ⟨g, i * E.k + j, none⟩ x) (.slice (some ⟨g, 0, none⟩) n c) n (rs.set i r') := by
  have := (World.ownsRow.stored h (i * E.k + j) x).1
  rw [E.xv_set rs i j r r' x hi hj he] at this
  exact this
theorem OwnE.rd {α : Type} {E : El α} {ty : TypeId} {w : World} {v : Value} {n : Nat} {rs : List α} {rd : α → Prop} (h : OwnE E ty w v n rs) (hr : ∀ r ∈ rs, rd r) : ∃ a c, v = .slice a n c ∧ RdE E rd w a rs := by
  rcases h.cases with ⟨rfl, rfl, rfl⟩ | ⟨g, c, rfl, _⟩
  · exact ⟨none, 0, rfl, .inl rfl⟩
  · refine ⟨_, c, rfl, .inr ⟨g, 0, rfl, fun i r hi => ⟨fun j hj => ?_, hr r (List.mem_of_getElem? hi)⟩⟩⟩
    rw [Nat.zero_add]
    exact h.cell i j r hi hj
theorem ownE_nil {α : Type} (E : El α) (ty : TypeId) (w : World) : OwnE E ty w (.slice none 0 0) 0 [] := ⟨by simp [El.xv], .inl ⟨rfl, rfl⟩⟩
end

section
open Go.RowKit
theorem gr_more {w w1 : World} {g : Nat} (h : w.grownBy w1 (some g)) (j : Nat) (v : Value) : w.grownBy (w1.setCell ⟨g, j, none⟩ v) (some g) :=
  ⟨h.os, h.tape, h.output, by rw [size_setC]; exact h.size, fun m hm hk => (heap_setCell_other w1 ⟨g, j, none⟩ m v (fun e => hk (by simp [e]))).trans (h.block m hm hk)⟩
end
end Go.Proofs.Ytmkcadnpleijdaa
