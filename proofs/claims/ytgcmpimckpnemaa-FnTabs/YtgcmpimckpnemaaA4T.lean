/-
  Joined: MarkTab, ToJ, DropQ.
-/
import Derived.Test.YtgcmpimckpnemaaA3T
namespace Go.Proofs.Ytgcmpimckpnemaa
section
open Go.RowKit
/-- An inode of a row, and the interval of blocks that its lists lie in. -/
structure InoJ where
  r : InoR
  lo : Nat
  hi : Nat
def InoJ.v1 (j : InoJ) : Value := .slice j.r.a1 j.r.D.data.length j.r.c1
def InoJ.v2 (j : InoJ) : Value := .slice j.r.a2 j.r.D.ents.length j.r.c2
def InoJ.v3 (j : InoJ) : Value := .slice j.r.a3 j.r.D.attrs.length j.r.c3
def InoJ.G (w : World) (j : InoJ) : Prop := InoG w j.lo j.hi j.r.D j.v1 j.v2 j.v3
def InoJ.M (w : World) (j : InoJ) (k : Nat) : Prop := InoGM w j.lo j.hi k j.r.D.data.length j.r.D.ents.length j.r.D.attrs.length j.v1 j.v2 j.v3
/-- The intervals are apart, and apart from the row's block; all of it lies from Lo up to Hi. -/
structure ApJ (g Lo Hi : Nat) (js : List InoJ) : Prop where
  apart : ∀ (i i' : Nat) (j j' : InoJ), js[i]? = some j → js[i']? = some j' → i ≠ i' → j.hi ≤ j'.lo ∨ j'.hi ≤ j.lo
  row : ∀ (i : Nat) (j : InoJ), js[i]? = some j → g < j.lo ∨ j.hi ≤ g
  within : ∀ (i : Nat) (j : InoJ), js[i]? = some j → Lo ≤ j.lo ∧ j.hi ≤ Hi
  rowIn : Lo ≤ g ∧ g < Hi
end

section
open Go.RowKit
/-- Inodes whose lists lie in intervals behind B, one behind the other. -/
structure JsQ (w : World) (B : Nat) (js : List InoJ) : Prop where
  G : ∀ (i : Nat) (j : InoJ), js[i]? = some j → j.G w
  lo : ∀ (i : Nat) (j : InoJ), js[i]? = some j → B ≤ j.lo ∧ j.lo ≤ j.hi ∧ j.hi ≤ w.heap.size
  ord : ∀ (i i' : Nat) (j j' : InoJ), i < i' → js[i]? = some j → js[i']? = some j' → j.hi ≤ j'.lo
theorem JsQ.nil (w : World) (B : Nat) : JsQ w B [] := ⟨fun i j h => by simp at h, fun i j h => by simp at h, fun i i' j j' _ h => by simp at h⟩
theorem JsQ.keep {w w' : World} {B : Nat} {js : List InoJ} (h : JsQ w B js) (hb : Below w.heap.size w w') : JsQ w' B js :=
  ⟨fun i j e => InoG.keep (h.G i j e) (h.lo i j e).2.2 hb, fun i j e => by have := h.lo i j e; have := hb.size; omega, h.ord⟩
theorem JsQ.gr {w w' : World} {B g : Nat} {js : List InoJ} (h : JsQ w B js) (k : w.grownBy w' (some g)) (hg : g < B) : JsQ w' B js :=
  ⟨fun i j e => InoG.kept (h.G i j e) (fun b h1 h2 => k.block b (by have := h.lo i j e; omega) (by have := h.lo i j e; simp; omega)), fun i j e => by have := h.lo i j e; have := k.size; omega, h.ord⟩
theorem JsQ.snoc {w w' : World} {B : Nat} {js : List InoJ} {r : InoR} (h : JsQ w B js) (hb : Below w.heap.size w w') (hB : B ≤ w.heap.size) (hG : (⟨r, w.heap.size, w'.heap.size⟩ : InoJ).G w') : JsQ w' B (js ++ [⟨r, w.heap.size, w'.heap.size⟩]) := by
  have hk := h.keep hb
  have hs := hb.size
  have hc : ∀ (i : Nat) (j : InoJ), (js ++ [⟨r, w.heap.size, w'.heap.size⟩])[i]? = some j → (i < js.length ∧ js[i]? = some j) ∨ (i = js.length ∧ j = ⟨r, w.heap.size, w'.heap.size⟩) := by
    intro i j e
    by_cases hi : i < js.length
    · rw [List.getElem?_append_left hi] at e
      exact .inl ⟨hi, e⟩
    · rw [List.getElem?_append_right (by omega)] at e
      by_cases hz : i - js.length = 0
      · rw [hz] at e
        simp at e
        exact .inr ⟨by omega, e.symm⟩
      · rw [List.getElem?_eq_none (by simp; omega)] at e
        simp at e
  refine ⟨fun i j e => ?_, fun i j e => ?_, fun i i' j j' hii e e' => ?_⟩
  · rcases hc i j e with ⟨_, e⟩ | ⟨_, rfl⟩
    · exact hk.G i j e
    · exact hG
  · rcases hc i j e with ⟨_, e⟩ | ⟨_, rfl⟩
    · exact hk.lo i j e
    · exact ⟨hB, hs, Nat.le_refl _⟩
  · rcases hc i' j' e' with ⟨h1, e'⟩ | ⟨h1, rfl⟩
    · rcases hc i j e with ⟨_, e⟩ | ⟨h2, _⟩
      · exact hk.ord i i' j j' hii e e'
      · omega
    · rcases hc i j e with ⟨_, e⟩ | ⟨h2, _⟩
      · exact (h.lo i j e).2.2
      · omega
theorem JsQ.ap {w : World} {B g Lo : Nat} {js : List InoJ} (h : JsQ w B js) (hg : g < B) (hL : Lo ≤ g) (hw : g < w.heap.size) : ApJ g Lo w.heap.size js :=
  ⟨fun i i' j j' e e' hne => by
    rcases Nat.lt_or_gt_of_ne hne with hl | hl
    · exact .inl (h.ord i i' j j' hl e e')
    · exact .inr (h.ord i' i j' j hl e' e),
  fun i j e => .inl (by have := h.lo i j e; omega), fun i j e => by have := h.lo i j e; omega, ⟨hL, hw⟩⟩
end

section
open Go.RowKit
theorem JsQ.grO {w w' : World} {B : Nat} {js : List InoJ} {g? : Option Nat} (h : JsQ w B js) (k : w.grownBy w' g?) (ha : ∀ g, g? = some g → ∀ (i : Nat) (j : InoJ), js[i]? = some j → g < j.lo ∨ j.hi ≤ g) : JsQ w' B js :=
  ⟨fun i j e => InoG.kept (h.G i j e) (fun b h1 h2 => k.block b (by have := h.lo i j e; omega) (fun q => by have := ha b q.symm i j e; omega)), fun i j e => by have := h.lo i j e; have := k.size; omega, h.ord⟩
/-- Copies of rs, in a row v that may be nil, all at or behind B. -/
structure DQT (B : Nat) (W : World) (v : Value) (rs : List InoR) (js : List InoJ) : Prop where
  ds : (js.map InoJ.r).map InoR.D = rs.map InoR.D
  row : W.ownsRow B 30 6 v js.length (iv (js.map InoJ.r))
  jq : JsQ W B js
  ap : ∀ g, v.ownBlock = some g → ∀ (i : Nat) (j : InoJ), js[i]? = some j → g < j.lo ∨ j.hi ≤ g
theorem row_keep6 {B : Nat} {e : TypeId} {s n : Nat} {W W' : World} {v : Value} {xs : List Value} (h : W.ownsRow B e s v n xs) (hb : Below W.heap.size W W') : W'.ownsRow B e s v n xs := row_kp h (KpT.below hb [e]) (by simp)
theorem DQT.nil (B : Nat) (W : World) : DQT B W (.slice none 0 0) [] [] := ⟨rfl, ⟨rfl, .inl ⟨rfl, rfl⟩⟩, JsQ.nil _ _, fun g h => by simp [Value.ownBlock] at h⟩
theorem DQT.keep {B : Nat} {W W' : World} {v : Value} {rs : List InoR} {js : List InoJ} (h : DQT B W v rs js) (hb : Below W.heap.size W W') : DQT B W' v rs js := ⟨h.ds, row_keep6 h.row hb, h.jq.keep hb, h.ap⟩
theorem DQT.setX {B : Nat} {W : World} {v : Value} {rs : List InoR} {js : List InoJ} (h : DQT B W v rs js) {X : Nat} (hX : X < B) (i : Nat) (u : Value) : DQT B (W.setCell ⟨X, i, none⟩ u) v rs js :=
  ⟨h.ds, row_kept h.row (gr_setC W X i u) (fun m hm e => by have := (World.ownsRow.lt h.row m hm).1; simp at e; omega), h.jq.gr (gr_setC W X i u) hX, h.ap⟩
theorem DQT.len {B : Nat} {W : World} {v : Value} {rs : List InoR} {js : List InoJ} (h : DQT B W v rs js) : js.length = rs.length := by have := congrArg List.length h.ds; simpa using this
/-- One more copy. -/
theorem DQT.app {B : Nat} {W W1 W2 : World} {v : Value} {rs : List InoR} {js : List InoJ} (h : DQT B W v rs js) (hB : B ≤ W.heap.size) (hb : Below W.heap.size W W1) (r r' : InoR) (hD : r'.D = r.D) (hG : (⟨r', W.heap.size, W1.heap.size⟩ : InoJ).G W1) (o : Obj) (hg : (W1.alloc o).grownBy W2 v.ownBlock) (g n c : Nat) (hn : n = js.length + 1) (ho : W2.ownsRow B 30 6 (.slice (some ⟨g, 0, none⟩) n c) n (iv (js.map InoJ.r) ++ r'.six)) (hat : v.ownBlock = some g ∨ g = W1.heap.size + 1) :
    DQT B W2 (.slice (some ⟨g, 0, none⟩) n c) (rs ++ [r]) (js ++ [⟨r', W.heap.size, W1.heap.size⟩]) := by
  subst hn
  have hv : ∀ m, v.ownBlock = some m → m < W.heap.size := fun m hm => (World.ownsRow.lt h.row m hm).2
  have hs := hb.size
  have hc : ∀ (i : Nat) (j : InoJ), (js ++ [⟨r', W.heap.size, W1.heap.size⟩])[i]? = some j → js[i]? = some j ∨ j = ⟨r', W.heap.size, W1.heap.size⟩ := by
    intro i j e
    by_cases hi : i < js.length
    · rw [List.getElem?_append_left hi] at e
      exact .inl e
    · rw [List.getElem?_append_right (by omega)] at e
      by_cases hz : i - js.length = 0
      · rw [hz] at e
        simp at e
        exact .inr e.symm
      · rw [List.getElem?_eq_none (by simp; omega)] at e
        simp at e
  have hap : ∀ m, v.ownBlock = some m → ∀ (i : Nat) (j : InoJ), (js ++ [⟨r', W.heap.size, W1.heap.size⟩])[i]? = some j → m < j.lo ∨ j.hi ≤ m := by
    intro m hm i j e
    rcases hc i j e with e | rfl
    · exact h.ap m hm i j e
    · exact .inl (hv m hm)
  have hj := ((h.jq.snoc hb hB hG).keep ((Below.refl _ W1).alloc (Nat.le_refl _) o)).grO hg hap
  refine ⟨?_, ?_, hj, fun m hm i j e => ?_⟩
  · rw [List.map_append, List.map_append, h.ds, List.map_append]
    simp [hD]
  · rw [List.length_append, List.map_append, iv_append]
    simpa [iv] using ho
  · simp [Value.ownBlock] at hm
    subst hm
    rcases hat with ha | rfl
    · exact hap g ha i j e
    · rcases hc i j e with e | rfl
      · have := h.jq.lo i j e
        exact .inr (by omega)
      · exact .inr (by dsimp only; omega)
theorem six_one (r : InoR) : ∀ u ∈ r.six, u.oneCell' = true := by
  intro u hu
  simp [InoR.six] at hu
  rcases hu with rfl | rfl | rfl | rfl | rfl | rfl <;> rfl
theorem six_news (W : World) (r : InoR) (t : TypeId) : ∀ j u, r.six[j]? = some u → (W.alloc (.cells #[.int .i64 r.D.ino, .int .i64 r.D.kind, .int .i64 r.D.links, .slice r.a1 r.D.data.length r.c1, .slice r.a2 r.D.ents.length r.c2, .slice r.a3 r.D.attrs.length r.c3] t)).cell? ((⟨W.heap.size, 0, none⟩ : Addr).add j) = some u :=
  World.news_of_block (Blk.new W t _)
end
end Go.Proofs.Ytgcmpimckpnemaa
