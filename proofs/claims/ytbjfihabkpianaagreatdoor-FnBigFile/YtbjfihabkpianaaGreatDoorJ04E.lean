/-
  Joined: MarkTab, ToJ, DropQ, DropS, CloneT.
-/
import Derived.Test.YtbjfihabkpianaaGreatDoorJ03E
import Derived.Deep.RegionLaw
import Derived.Lib.Slices
import Derived.Lib.Walk
import Derived.Lib.Bytealg
import Derived.Lib.IndexLaws
import Derived.Lib.BufferWrite
import Derived.Lib.UnsafeStr
import Derived.Laws.MakeOwn
import Derived.Laws.Strings3
namespace Go.Proofs.YtbjfihabkpianaaGreatDoor
section
open Go.RowKit
/-- An inode of a row, and the interval of blocks that its lists lie in. -/
structure InoJ where
  r : InoR
  lo : Nat
  hi : Nat
def InoJ.v1 (j : InoJ) : Value := .slice j.r.a1 j.r.D.data.length j.r.c1
def InoJ.v2 (j : InoJ) : Value := .slice j.r.a2 j.r.D.ents.length j.r.c2
def InoJ.v3 (j : InoJ) : Value := .slice j.r.a3 j.r.D.attrs.length j.r.c3
def InoJ.G (w : World) (j : InoJ) : Prop := InoG w j.lo j.hi j.r.D j.v1 j.v2 j.v3
def InoJ.M (w : World) (j : InoJ) (k : Nat) : Prop := InoGM w j.lo j.hi k j.r.D.data.length j.r.D.ents.length j.r.D.attrs.length j.v1 j.v2 j.v3
/-- The intervals are apart, and apart from the row's block; all of it lies from Lo up to Hi. -/
structure ApJ (g Lo Hi : Nat) (js : List InoJ) : Prop where
  apart : ∀ (i i' : Nat) (j j' : InoJ), js[i]? = some j → js[i']? = some j' → i ≠ i' → j.hi ≤ j'.lo ∨ j'.hi ≤ j.lo
  row : ∀ (i : Nat) (j : InoJ), js[i]? = some j → g < j.lo ∨ j.hi ≤ g
  within : ∀ (i : Nat) (j : InoJ), js[i]? = some j → Lo ≤ j.lo ∧ j.hi ≤ Hi
  rowIn : Lo ≤ g ∧ g < Hi
end

section
open Go.RowKit
/-- Inodes whose lists lie in intervals behind B, one behind the other. -/
structure JsQ (w : World) (B : Nat) (js : List InoJ) : Prop where
  G : ∀ (i : Nat) (j : InoJ), js[i]? = some j → j.G w
  lo : ∀ (i : Nat) (j : InoJ), js[i]? = some j → B ≤ j.lo ∧ j.lo ≤ j.hi ∧ j.hi ≤ w.heap.size
  ord : ∀ (i i' : Nat) (j j' : InoJ), i < i' → js[i]? = some j → js[i']? = some j' → j.hi ≤ j'.lo
theorem JsQ.nil (w : World) (B : Nat) : JsQ w B [] := ⟨fun i j h => by simp at h, fun i j h => by simp at h, fun i i' j j' _ h => by simp at h⟩
theorem JsQ.keep {w w' : World} {B : Nat} {js : List InoJ} (h : JsQ w B js) (hb : Below w.heap.size w w') : JsQ w' B js :=
  ⟨fun i j e => InoG.keep (h.G i j e) (h.lo i j e).2.2 hb, fun i j e => by have := h.lo i j e; have := hb.size; omega, h.ord⟩
theorem JsQ.gr {w w' : World} {B g : Nat} {js : List InoJ} (h : JsQ w B js) (k : w.grownBy w' (some g)) (hg : g < B) : JsQ w' B js :=
  ⟨fun i j e => InoG.kept (h.G i j e) (fun b h1 h2 => k.block b (by have := h.lo i j e; omega) (by have := h.lo i j e; simp; omega)), fun i j e => by have := h.lo i j e; have := k.size; omega, h.ord⟩
theorem JsQ.snoc {w w' : World} {B : Nat} {js : List InoJ} {r : InoR} (h : JsQ w B js) (hb : Below w.heap.size w w') (hB : B ≤ w.heap.size) (hG : (⟨r, w.heap.size, w'.heap.size⟩ : InoJ).G w') : JsQ w' B (js ++ [⟨r, w.heap.size, w'.heap.size⟩]) := by
  have hk := h.keep hb
  have hs := hb.size
  have hc : ∀ (i : Nat) (j : InoJ), (js ++ [⟨r, w.heap.size, w'.heap.size⟩])[i]? = some j → (i < js.length ∧ js[i]? = some j) ∨ (i = js.length ∧ j = ⟨r, w.heap.size, w'.heap.size⟩) := by
    intro i j e
    by_cases hi : i < js.length
    · rw [List.getElem?_append_left hi] at e
      exact .inl ⟨hi, e⟩
    · rw [List.getElem?_append_right (by omega)] at e
      by_cases hz : i - js.length = 0
      · rw [hz] at e
        simp at e
        exact .inr ⟨by omega, e.symm⟩
      · rw [List.getElem?_eq_none (by simp; omega)] at e
        simp at e
  refine ⟨fun i j e => ?_, fun i j e => ?_, fun i i' j j' hii e e' => ?_⟩
  · rcases hc i j e with ⟨_, e⟩ | ⟨_, rfl⟩
    · exact hk.G i j e
    · exact hG
  · rcases hc i j e with ⟨_, e⟩ | ⟨_, rfl⟩
    · exact hk.lo i j e
    · exact ⟨hB, hs, Nat.le_refl _⟩
  · rcases hc i' j' e' with ⟨h1, e'⟩ | ⟨h1, rfl⟩
    · rcases hc i j e with ⟨_, e⟩ | ⟨h2, _⟩
      · exact hk.ord i i' j j' hii e e'
      · omega
    · rcases hc i j e with ⟨_, e⟩ | ⟨h2, _⟩
      · exact (h.lo i j e).2.2
      · omega
theorem JsQ.ap {w : World} {B g Lo : Nat} {js : List InoJ} (h : JsQ w B js) (hg : g < B) (hL : Lo ≤ g) (hw : g < w.heap.size) : ApJ g Lo w.heap.size js :=
  ⟨fun i i' j j' e e' hne => by
    rcases Nat.lt_or_gt_of_ne hne with hl | hl
    · exact .inl (h.ord i i' j j' hl e e')
    · exact .inr (h.ord i' i j' j hl e' e),
  fun i j e => .inl (by have := h.lo i j e; omega), fun i j e => by have := h.lo i j e; omega, ⟨hL, hw⟩⟩
end

section
open Go.RowKit
theorem JsQ.grO {w w' : World} {B : Nat} {js : List InoJ} {g? : Option Nat} (h : JsQ w B js) (k : w.grownBy w' g?) (ha : ∀ g, g? = some g → ∀ (i : Nat) (j : InoJ), js[i]? = some j → g < j.lo ∨ j.hi ≤ g) : JsQ w' B js :=
  ⟨fun i j e => InoG.kept (h.G i j e) (fun b h1 h2 => k.block b (by have := h.lo i j e; omega) (fun q => by have := ha b q.symm i j e; omega)), fun i j e => by have := h.lo i j e; have := k.size; omega, h.ord⟩
/-- Copies of rs, in a row v that may be nil, all at or behind B. -/
structure DQT (B : Nat) (W : World) (v : Value) (rs : List InoR) (js : List InoJ) : Prop where
  ds : (js.map InoJ.r).map InoR.D = rs.map InoR.D
  row : W.ownsRow B 68 6 v js.length (iv (js.map InoJ.r))
  jq : JsQ W B js
  ap : ∀ g, v.ownBlock = some g → ∀ (i : Nat) (j : InoJ), js[i]? = some j → g < j.lo ∨ j.hi ≤ g
theorem row_keep6 {B : Nat} {e : TypeId} {s n : Nat} {W W' : World} {v : Value} {xs : List Value} (h : W.ownsRow B e s v n xs) (hb : Below W.heap.size W W') : W'.ownsRow B e s v n xs := row_kp h (KpT.below hb [e]) (by simp)
theorem DQT.nil (B : Nat) (W : World) : DQT B W (.slice none 0 0) [] [] := ⟨rfl, ⟨rfl, .inl ⟨rfl, rfl⟩⟩, JsQ.nil _ _, fun g h => by simp [Value.ownBlock] at h⟩
theorem DQT.keep {B : Nat} {W W' : World} {v : Value} {rs : List InoR} {js : List InoJ} (h : DQT B W v rs js) (hb : Below W.heap.size W W') : DQT B W' v rs js := ⟨h.ds, row_keep6 h.row hb, h.jq.keep hb, h.ap⟩
theorem DQT.setX {B : Nat} {W : World} {v : Value} {rs : List InoR} {js : List InoJ} (h : DQT B W v rs js) {X : Nat} (hX : X < B) (i : Nat) (u : Value) : DQT B (W.setCell ⟨X, i, none⟩ u) v rs js :=
  ⟨h.ds, row_kept h.row (gr_setC W X i u) (fun m hm e => by have := (World.ownsRow.lt h.row m hm).1; simp at e; omega), h.jq.gr (gr_setC W X i u) hX, h.ap⟩
theorem DQT.len {B : Nat} {W : World} {v : Value} {rs : List InoR} {js : List InoJ} (h : DQT B W v rs js) : js.length = rs.length := by have := congrArg List.length h.ds; simpa using this
/-- One more copy. -/
theorem DQT.app {B : Nat} {W W1 W2 : World} {v : Value} {rs : List InoR} {js : List InoJ} (h : DQT B W v rs js) (hB : B ≤ W.heap.size) (hb : Below W.heap.size W W1) (r r' : InoR) (hD : r'.D = r.D) (hG : (⟨r', W.heap.size, W1.heap.size⟩ : InoJ).G W1) (o : Obj) (hg : (W1.alloc o).grownBy W2 v.ownBlock) (g n c : Nat) (hn : n = js.length + 1) (ho : W2.ownsRow B 68 6 (.slice (some ⟨g, 0, none⟩) n c) n (iv (js.map InoJ.r) ++ r'.six)) (hat : v.ownBlock = some g ∨ g = W1.heap.size + 1) :
    DQT B W2 (.slice (some ⟨g, 0, none⟩) n c) (rs ++ [r]) (js ++ [⟨r', W.heap.size, W1.heap.size⟩]) := by
  subst hn
  have hv : ∀ m, v.ownBlock = some m → m < W.heap.size := fun m hm => (World.ownsRow.lt h.row m hm).2
  have hs := hb.size
  have hc : ∀ (i : Nat) (j : InoJ), (js ++ [⟨r', W.heap.size, W1.heap.size⟩])[i]? = some j → js[i]? = some j ∨ j = ⟨r', W.heap.size, W1.heap.size⟩ := by
    intro i j e
    by_cases hi : i < js.length
    · rw [List.getElem?_append_left hi] at e
      exact .inl e
    · rw [List.getElem?_append_right (by omega)] at e
      by_cases hz : i - js.length = 0
      · rw [hz] at e
        simp at e
        exact .inr e.symm
      · rw [List.getElem?_eq_none (by simp; omega)] at e
        simp at e
  have hap : ∀ m, v.ownBlock = some m → ∀ (i : Nat) (j : InoJ), (js ++ [⟨r', W.heap.size, W1.heap.size⟩])[i]? = some j → m < j.lo ∨ j.hi ≤ m := by
    intro m hm i j e
    rcases hc i j e with e | rfl
    · exact h.ap m hm i j e
    · exact .inl (hv m hm)
  have hj := ((h.jq.snoc hb hB hG).keep ((Below.refl _ W1).alloc (Nat.le_refl _) o)).grO hg hap
  refine ⟨?_, ?_, hj, fun m hm i j e => ?_⟩
  · rw [List.map_append, List.map_append, h.ds, List.map_append]
    simp [hD]
  · rw [List.length_append, List.map_append, iv_append]
    simpa [iv] using ho
  · simp [Value.ownBlock] at hm
    subst hm
    rcases hat with ha | rfl
    · exact hap g ha i j e
    · rcases hc i j e with e | rfl
      · have := h.jq.lo i j e
        exact .inr (by omega)
      · exact .inr (by dsimp only; omega)
theorem six_one (r : InoR) : ∀ u ∈ r.six, u.oneCell' = true := by
  intro u hu
  simp [InoR.six] at hu
  rcases hu with rfl | rfl | rfl | rfl | rfl | rfl <;> rfl
theorem six_news (W : World) (r : InoR) (t : TypeId) : ∀ j u, r.six[j]? = some u → (W.alloc (.cells #[.int .i64 r.D.ino, .int .i64 r.D.kind, .int .i64 r.D.links, .slice r.a1 r.D.data.length r.c1, .slice r.a2 r.D.ents.length r.c2, .slice r.a3 r.D.attrs.length r.c3] t)).cell? ((⟨W.heap.size, 0, none⟩ : Addr).add j) = some u :=
  World.news_of_block (Blk.new W t _)
end

section
open Go.RowKit
/-- The inodes of another number. -/
def dropR (rs : List InoR) (x : Int) : List InoR := rs.filter fun r => r.D.ino != x
theorem dropR_no {rs : List InoR} {x : Int} {k : Nat} {r : InoR} (h : rs[k]? = some r) (he : r.D.ino = x) : dropR (rs.take (k + 1)) x = dropR (rs.take k) x := by
  unfold dropR
  rw [List.take_add_one, h]
  simp [he]
theorem dropR_yes {rs : List InoR} {x : Int} {k : Nat} {r : InoR} (h : rs[k]? = some r) (he : r.D.ino ≠ x) : dropR (rs.take (k + 1)) x = dropR (rs.take k) x ++ [r] := by
  unfold dropR
  rw [List.take_add_one, h]
  simp [he]
theorem dropR_len (rs : List InoR) (x : Int) (k : Nat) : (dropR (rs.take k) x).length ≤ k := by
  unfold dropR
  refine Nat.le_trans (List.length_filter_le _ _) ?_
  rw [List.length_take]
  omega
theorem row_lower {B B' : Nat} {w : World} {e : TypeId} {s n : Nat} {v : Value} {xs : List Value} (h : w.ownsRow B e s v n xs) (hB : B' ≤ B) : w.ownsRow B' e s v n xs :=
  ⟨h.1, h.2.imp id (fun ⟨g, c, cur, h1, h2, rest⟩ => ⟨g, c, cur, h1, Nat.le_trans hB h2, rest⟩)⟩
theorem DQT.lower {B B' : Nat} {W : World} {v : Value} {rs : List InoR} {js : List InoJ} (h : DQT B W v rs js) (hB : B' ≤ B) : DQT B' W v rs js :=
  ⟨h.ds, row_lower h.row hB, ⟨h.jq.G, fun i j e => by have := h.jq.lo i j e; omega, h.jq.ord⟩, h.ap⟩
/-- What both DropInode functions answer. -/
def DropPost (w : World) (nx : Int) (ds : List InoR) (e : Ending) (w' : World) : Prop :=
  ∃ (a : Option Addr) (c : Nat) (js : List InoJ), e = .returned (.agg #[.slice a js.length c, .int .i64 nx]) ∧ DQT w.heap.size w' (.slice a js.length c) ds js ∧ Below w.heap.size w w'
/-- What is known while copies are appended: the argument's box, the answer's, the list's. -/
structure DX (w W : World) (X : Nat) (nx : Int) (tv v : Value) (ds : List InoR) (js : List InoJ) : Prop where
  below : Below w.heap.size w W
  tb : Blk W w.heap.size 47 #[tv, .int .i64 nx]
  res : Blk W (w.heap.size + 1) 47 #[.slice none 0 0, .int .i64 0]
  out : Blk W X 47 #[v, .int .i64 nx]
  hX : w.heap.size + 1 < X
  q : DQT (X + 1) W v ds js
theorem DX.keep {w W W' : World} {X : Nat} {nx : Int} {tv v : Value} {ds : List InoR} {js : List InoJ} (h : DX w W X nx tv v ds js) (hb : Below W.heap.size W W') : DX w W' X nx tv v ds js :=
  ⟨h.below.trans (hb.mono h.below.size), h.tb.keep hb, h.res.keep hb, h.out.keep hb, h.hX, h.q.keep hb⟩
theorem six_of_row {B : Nat} {w : World} {v : Value} {js : List InoJ} (h : w.ownsRow B 68 6 v js.length (iv (js.map InoJ.r))) : ∃ a c, v = .slice a js.length c := by
  rcases h.2 with ⟨h1, h2⟩ | ⟨g, c, cur, h1, _⟩
  · exact ⟨none, 0, by rw [h2]; exact h1⟩
  · exact ⟨_, _, h1⟩
/-- One more copy appended and stored in the list's box. -/
theorem DX.app {w W W1 W2 : World} {X : Nat} {nx : Int} {tv v : Value} {ds : List InoR} {js : List InoJ} (h : DX w W X nx tv v ds js) (hb : Below W.heap.size W W1) (r r' : InoR) (hD : r'.D = r.D) (hG : (⟨r', W.heap.size, W1.heap.size⟩ : InoJ).G W1) (o : Obj) (hg : (W1.alloc o).grownBy W2 v.ownBlock) (g n c : Nat) (hn : n = js.length + 1) (ho : W2.ownsRow (X + 1) 68 6 (.slice (some ⟨g, 0, none⟩) n c) n (iv (js.map InoJ.r) ++ r'.six)) (hat : v.ownBlock = some g ∨ g = W1.heap.size + 1) :
    Blk W2 X 47 #[v, .int .i64 nx] ∧ DX w (W2.setCell ⟨X, 0, none⟩ (.slice (some ⟨g, 0, none⟩) n c)) X nx tv (.slice (some ⟨g, 0, none⟩) n c) (ds ++ [r]) (js ++ [⟨r', W.heap.size, W1.heap.size⟩]) := by
  have hlt := h.out.lt
  have hx := h.hX
  have hv : ∀ m, v.ownBlock = some m → X + 1 ≤ m := fun m hm => (World.ownsRow.lt h.q.row m hm).1
  have h1 := h.keep (hb.trans (((Below.refl _ W1).alloc (Nat.le_refl _) o).mono hb.size))
  have kb : ∀ b, b ≤ X → b < (W1.alloc o).heap.size → W2.heap[b]? = (W1.alloc o).heap[b]? := fun b hbX hbl => hg.block b hbl (fun e => by have := hv b e.symm; omega)
  have hl1 := h1.out.lt
  have t2 : Blk W2 w.heap.size 47 #[tv, .int .i64 nx] := (kb _ (by omega) h1.tb.lt).trans h1.tb
  have r2 : Blk W2 (w.heap.size + 1) 47 #[.slice none 0 0, .int .i64 0] := (kb _ (by omega) h1.res.lt).trans h1.res
  have o2 : Blk W2 X 47 #[v, .int .i64 nx] := (kb _ (by omega) h1.out.lt).trans h1.out
  have q2 := h.q.app (by omega) hb r r' hD hG o hg g n c hn ho hat
  have b2 : Below w.heap.size w W2 := h1.below.grown hg h1.below.size (fun m hm => by have := hv m hm; omega)
  exact ⟨o2, b2.setCell (p := ⟨X, 0, none⟩) (by simp only; omega) _, t2.other (by omega) 0 _, r2.other (by omega) 0 _, o2.set 0 _, hx, q2.setX (Nat.lt_succ_self _) 0 _⟩
end

section
open Go.RowKit
set_option maxHeartbeats 4000000 in
set_option maxRecDepth 100000 in
theorem clone_inner (s : ByteArray) (w : World) (hs : s.size ≤ 4000000) :
    Calls Tryz.prog 198 #[.string s] w fun e w' => e = .returned (.string s) ∧ Below w.heap.size w w' := by
  by_cases h0 : s.size = 0
  · obtain rfl : s = ⟨#[]⟩ := by
      apply ByteArray.ext
      exact Array.eq_empty_of_size_eq_zero h0
    go_enter Tryz.func198, Tryz.ntmps198
    go_wp2
    go_ret
    exact ⟨rfl, Below.refl _ _⟩
  · obtain ⟨i0, hi, hz0, hz1, hz2⟩ := info_parts Tryz.info5
    have hinfo : (Tryz.prog.info? 5).map (·.size) = some 1 := by rw [hi]; simp [hz1]
    have hco : Tryz.prog.cellsOf 5 = 1 := by simp [Program.cellsOf, hi, hz1]
    obtain ⟨M, hM⟩ : ∃ M, M = madeCells (Value.int .u8 0).cells (((s.size : Nat) : Int).toNat * i0.size) := ⟨_, rfl⟩
    have hMs : M.size = s.size := by rw [hM, size_madeCells, hz1]; simp
    have hmk : ∀ W : World, (Instr.makeSlice 42 (.int .i64 (s.size : Int)) (.int .i64 (s.size : Int))).run Tryz.prog W = .ok (.slice (some ⟨W.heap.size, 0, none⟩) s.size s.size) (W.alloc (.cells M 5)) := fun W => by
      have h := run_make (P := Tryz.prog) W 42 5 i0 (.int .u8 0) Tryz.underlying42 hi hz0 .i64 .i64 (s.size : Int) (s.size : Int) (by omega) (by omega) (by rw [hz2]; omega) (by omega)
      rw [← hM] at h
      simpa using h
    clear hM
    have hcp := Lib.run_copy_row_string (P := Tryz.prog) (w.alloc (.cells M 5)) 42 9 3 5 w.heap.size 0 s.size s.size s M 5 Tryz.underlying42 hinfo (heap_alloc_new w _) (Nat.le_refl _) (by omega)
    obtain ⟨Y, hY⟩ : ∃ Y, Y = (M.toList.take 0 ++ Lib.byteCells s.data.toList ++ M.toList.drop (0 + s.size)).toArray := ⟨_, rfl⟩
    rw [← hY] at hcp
    have hYl : Y.toList = Lib.byteCells s.data.toList := by
      rw [hY, List.toList_toArray, List.take_zero, List.nil_append, List.drop_of_length_le (by rw [Array.length_toList]; omega), List.append_nil]
    have hYs : Y.size = s.size := by rw [← Array.length_toList, hYl, Lib.byteCells_length, ← Lib.size_eq]
    have hgY : ((w.alloc (.cells M 5)).setRow w.heap.size Y).heap[w.heap.size]? = some (.cells Y 5 (0, 0)) := setRow_heap _ _ M _ 5 (0, 0) (heap_alloc_new w _)
    have hne : s.data.toList ≠ [] := fun e => h0 (by rw [Lib.size_eq, e]; rfl)
    have hUS := Lib.run_unsafeString_row (P := Tryz.prog) ((w.alloc (.cells M 5)).setRow w.heap.size Y) 271 3 9 5 Tryz.underlying271 hco w.heap.size Y.size (by unfold World.shape?; rw [hgY]) s.data.toList hne (by rw [← Lib.size_eq]; omega) (by rw [← Lib.size_eq]; omega)
      (fun j x hx => Lib.cells_of_row hgY Y.size j _ (by rw [List.take_of_length_le (by rw [Array.length_toList]; exact Nat.le_refl _), hYl]; simp [Lib.byteCells, hx]))
    rw [← Lib.size_eq] at hUS
    clear hY
    have hb1 : Below w.heap.size w (w.alloc (.cells M 5)) := (Below.refl _ w).alloc (Nat.le_refl _) _
    have hb2 : Below w.heap.size (w.alloc (.cells M 5)) ((w.alloc (.cells M 5)).setRow w.heap.size Y) := ⟨rfl, rfl, rfl, by simp, fun k hk => setRow_other _ _ _ _ (by omega)⟩
    have hb : Hid (Below w.heap.size w ((w.alloc (.cells M 5)).setRow w.heap.size Y)) := hb1.trans hb2
    clear hb1 hb2
    go_enter Tryz.func198, Tryz.ntmps198
    go_wp2
    go_ret
    exact ⟨rfl, Lib.below_freeze hb.out (p := ⟨w.heap.size, 0, none⟩) (Nat.le_refl _) _⟩
set_option maxHeartbeats 1000000 in
theorem strClone (s : ByteArray) (w : World) (hs : s.size ≤ 4000000) :
    Calls Tryz.prog 140 #[.string s] w fun e w' => e = .returned (.string s) ∧ Below w.heap.size w w' := by
  go_enter Tryz.func140, Tryz.ntmps140
  go_wp2_with fail
  refine (clone_inner s w hs).mono ?_
  rintro e w1 ⟨rfl, hb⟩
  go_wp2
  go_ret
  exact ⟨rfl, hb⟩
end
end Go.Proofs.YtbjfihabkpianaaGreatDoor
