/-
  A table that is built by appending copies of inodes.
-/
import Derived.Test.YtnadeelnjhollaaToJU
import Derived.Test.YtnadeelnjhollaaCopySU
namespace Go.Proofs.Ytnadeelnjhollaa
open Go.RowKit
theorem JsQ.grO {w w' : World} {B : Nat} {js : List InoJ} {g? : Option Nat} (h : JsQ w B js) (k : w.grownBy w' g?) (ha : ∀ g, g? = some g → ∀ (i : Nat) (j : InoJ), js[i]? = some j → g < j.lo ∨ j.hi ≤ g) : JsQ w' B js :=
  ⟨fun i j e => InoG.kept (h.G i j e) (fun b h1 h2 => k.block b (by have := h.lo i j e; omega) (fun q => by have := ha b q.symm i j e; omega)), fun i j e => by have := h.lo i j e; have := k.size; omega, h.ord⟩
/-- Copies of rs, in a row v that may be nil, all at or behind B. -/
structure DQT (B : Nat) (W : World) (v : Value) (rs : List InoR) (js : List InoJ) : Prop where
  ds : (js.map InoJ.r).map InoR.D = rs.map InoR.D
  row : W.ownsRow B 50 6 v js.length (iv (js.map InoJ.r))
  jq : JsQ W B js
  ap : ∀ g, v.ownBlock = some g → ∀ (i : Nat) (j : InoJ), js[i]? = some j → g < j.lo ∨ j.hi ≤ g
theorem row_keep6 {B : Nat} {e : TypeId} {s n : Nat} {W W' : World} {v : Value} {xs : List Value} (h : W.ownsRow B e s v n xs) (hb : Below W.heap.size W W') : W'.ownsRow B e s v n xs := row_kp h (KpT.below hb [e]) (by simp)
theorem DQT.nil (B : Nat) (W : World) : DQT B W (.slice none 0 0) [] [] := ⟨rfl, ⟨rfl, .inl ⟨rfl, rfl⟩⟩, JsQ.nil _ _, fun g h => by simp [Value.ownBlock] at h⟩
theorem DQT.keep {B : Nat} {W W' : World} {v : Value} {rs : List InoR} {js : List InoJ} (h : DQT B W v rs js) (hb : Below W.heap.size W W') : DQT B W' v rs js := ⟨h.ds, row_keep6 h.row hb, h.jq.keep hb, h.ap⟩
theorem DQT.len {B : Nat} {W : World} {v : Value} {rs : List InoR} {js : List InoJ} (h : DQT B W v rs js) : js.length = rs.length := by have := congrArg List.length h.ds; simpa using this
/-- One more copy. -/
theorem DQT.app {B : Nat} {W W1 W2 : World} {v : Value} {rs : List InoR} {js : List InoJ} (h : DQT B W v rs js) (hB : B ≤ W.heap.size) (hb : Below W.heap.size W W1) (r r' : InoR) (hD : r'.D = r.D) (hG : (⟨r', W.heap.size, W1.heap.size⟩ : InoJ).G W1) (o : Obj) (hg : (W1.alloc o).grownBy W2 v.ownBlock) (g n c : Nat) (hn : n = js.length + 1) (ho : W2.ownsRow B 50 6 (.slice (some ⟨g, 0, none⟩) n c) n (iv (js.map InoJ.r) ++ r'.six)) (hat : v.ownBlock = some g ∨ g = W1.heap.size + 1) :
    DQT B W2 (.slice (some ⟨g, 0, none⟩) n c) (rs ++ [r]) (js ++ [⟨r', W.heap.size, W1.heap.size⟩]) := by
  subst hn
  have hv : ∀ m, v.ownBlock = some m → m < W.heap.size := fun m hm => (World.ownsRow.lt h.row m hm).2
  have hs := hb.size
  have hc : ∀ (i : Nat) (j : InoJ), (js ++ [⟨r', W.heap.size, W1.heap.size⟩])[i]? = some j → js[i]? = some j ∨ j = ⟨r', W.heap.size, W1.heap.size⟩ := by
    intro i j e
    by_cases hi : i < js.length
    · rw [List.getElem?_append_left hi] at e
      exact .inl e
    · rw [List.getElem?_append_right (by omega)] at e
      by_cases hz : i - js.length = 0
      · rw [hz] at e
        simp at e
        exact .inr e.symm
      · rw [List.getElem?_eq_none (by simp; omega)] at e
        simp at e
  have hap : ∀ m, v.ownBlock = some m → ∀ (i : Nat) (j : InoJ), (js ++ [⟨r', W.heap.size, W1.heap.size⟩])[i]? = some j → m < j.lo ∨ j.hi ≤ m := by
    intro m hm i j e
    rcases hc i j e with e | rfl
    · exact h.ap m hm i j e
    · exact .inl (hv m hm)
  have hj := ((h.jq.snoc hb hB hG).keep ((Below.refl _ W1).alloc (Nat.le_refl _) o)).grO hg hap
  refine ⟨?_, ?_, hj, fun m hm i j e => ?_⟩
  · rw [List.map_append, List.map_append, h.ds, List.map_append]
    simp [hD]
  · rw [List.length_append, List.map_append, iv_append]
    simpa [iv] using ho
  · simp [Value.ownBlock] at hm
    subst hm
    rcases hat with ha | rfl
    · exact hap g ha i j e
    · rcases hc i j e with e | rfl
      · have := h.jq.lo i j e
        exact .inr (by omega)
      · exact .inr (by dsimp only; omega)
end Go.Proofs.Ytnadeelnjhollaa
