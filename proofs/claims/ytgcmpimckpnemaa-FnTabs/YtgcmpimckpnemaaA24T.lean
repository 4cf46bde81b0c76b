/-
  Joined: Insert, IdxF, SetI.
-/
import Derived.Test.YtgcmpimckpnemaaA12T
import Derived.Lib.AppendZerosOnto
import Derived.Laws.CopyRow
namespace Go.Proofs.Ytgcmpimckpnemaa
section
open Go.RowKit
theorem run_copy6 (w : World) (ty : TypeId) (g o dLen dCap : Nat) (a : Addr) (sLen sCap : Nat) (cur : Array Value) (t : TypeId) (cs : List Value) (m : Nat)
    (hg : w.heap[g]? = some (.cells cur t (0, 0))) (hm : Nat.min sLen dLen = m) (hn : cs.length = m * 6)
    (hsrc : ∀ j v, cs[j]? = some v → w.cell? (a.add j) = some v) (hfit : o + cs.length ≤ cur.size) (h1 : ∀ v ∈ cs, v.oneCell' = true) :
    (Builtin.copy_ #[24, 24] ty #[.slice (some ⟨g, o, none⟩) dLen dCap, .slice (some a) sLen sCap]).run Try.prog w =
      .ok (goInt m) (w.setRow g (cur.toList.take o ++ cs ++ cur.toList.drop (o + cs.length)).toArray) := by
  obtain ⟨ii, hii, zi0, zi1, zi2⟩ := info_parts Try.infoInode
  have hl := run_loadCells_list (P := Try.prog) w a cs hsrc
  have hst := run_storeCells_at Try.prog g o t cs 0 cur w hg (by simpa using hfit) h1
  rw [hn] at hl
  simp [Builtin.copy_, run_underlying Try.underlying24, Builtin.lenOf, Builtin.firstCells, sizeOf, typeInfo, hii, zi1, hm, hl, hst]
theorem wpList_copy_run (w : World) {ops : Array Oper} {rest : List Oper} {o : Oper} {a : Act} {Q : Exit → Act → World → Prop} (hgd : o.guard = none) (d s : Operand) (t t' : TypeId)
    (ho : o.op = .call { callee := .builtin .copy, args := #[d, s], argTypes := #[t, t'] }) (v u : Value) (hd : a.eval d = v) (hs : a.eval s = u) {v' : Value} {w' : World}
    (hr : (Builtin.copy_ #[t, t'] o.type #[v, u]).run Try.prog w = .ok v' w') (h : wpList Try.prog ops Q rest (a.put o.dst v') w') : wpList Try.prog ops Q (o :: rest) a w := by
  refine wpList_plain hgd fun K hK => ?_
  unfold Oper.wp execOp
  simp only [ho, resolve, invoke, builtin, Sem.run_bind, Sem.run_pure, Result.andThen_ok, List.map_toArray, List.map_cons, List.map_nil, hd, hs, hr]
  exact hK _ _ h
theorem step_copy_run {ops : Array Oper} {o : Oper} {a : Act} {w : World} {K : Act → World → Prop} {Q : Exit → Act → World → Prop} {E : Prop}
    (hg : o.guard = none) (d x : Operand) (dT sT : TypeId) (hop : o.op = Op.call { callee := Callee.builtin Builtin.copy, args := #[d, x], argTypes := #[dT, sT] })
    (v u : Value) (hd : a.eval d = v) (hx : a.eval x = u) {v' : Value} {w' : World} (hr : (Builtin.copy_ #[dT, sT] o.type #[v, u]).run Try.prog w = .ok v' w') (hK : K (a.put o.dst v') w') :
    if Region.wanted o (yielded ops a.tmps) = true then Oper.wp Try.prog o a w K Q else E := by
  have hw : Region.wanted o (yielded ops a.tmps) = true := by simp [Region.wanted, hg]
  rw [if_pos hw]
  unfold Oper.wp execOp
  simp only [hop, resolve, invoke, builtin, Sem.run_bind, Sem.run_pure, Result.andThen_ok, List.map_toArray, List.map_cons, List.map_nil, hd, hx, hr]
  exact hK
/-- A row of inodes without room, written out. -/
structure Full (w : World) (g n : Nat) (xs : List Value) : Prop where
  len : xs.length = n * 6
  blk : w.heap[g]? = some (.cells xs.toArray 30 (0, 0))
theorem full_of {B : Nat} {w : World} {g n : Nat} {xs : List Value} (h : w.ownsRow B 30 6 (.slice (some ⟨g, 0, none⟩) n n) n xs) : Full w g n xs := by
  rcases h.2 with ⟨h', _⟩ | ⟨g', c, cur, h', _, h3, _, _, h6, h7⟩
  · simp at h'
  · simp at h'
    obtain ⟨rfl, rfl⟩ := h'
    refine ⟨h.1, ?_⟩
    rw [List.take_of_length_le (by rw [Array.length_toList]; omega)] at h7
    rw [h3, ← h7]
theorem Full.cell {w : World} {g n : Nat} {xs : List Value} (h : Full w g n xs) (j : Nat) (u : Value) (hu : xs[j]? = some u) : w.cell? ⟨g, j, none⟩ = some u := by
  rw [cell_of_row w g j _ _ (0, 0) h.blk]
  simpa using hu
theorem Full.lt {w : World} {g n : Nat} {xs : List Value} (h : Full w g n xs) : g < w.heap.size := (Array.getElem?_eq_some_iff.1 h.blk).1
theorem zeroCells_size (z : Array Value) (n : Nat) : (Builtin.zeroCells z n).size = n * z.size := by simp [Builtin.zeroCells]
theorem gr_row (W : World) (g : Nat) (R : Array Value) : W.grownBy (W.setRow g R) (some g) := ⟨rfl, rfl, rfl, by simp, fun k _ hk => setRow_other W g k R (fun e => hk (by simp [e]))⟩
/-- What Insert answers. -/
def InsPost (w : World) (B n : Nat) (ys : List Value) (e : Ending) (w' : World) : Prop :=
  ∃ c, e = .returned (.slice (some ⟨w.heap.size, 0, none⟩) (n + 1) c) ∧ w'.ownsRow B 30 6 (.slice (some ⟨w.heap.size, 0, none⟩) (n + 1) c) (n + 1) ys ∧ Below w.heap.size w w'
set_option maxRecDepth 100000 in
set_option maxHeartbeats 4000000 in
theorem insert_end (B g n vb : Nat) (xs vs : List Value) (w : World) (hs : n ≤ 1048576) (hB : B ≤ w.heap.size) (hx : Full w g n xs) (hv : ∀ j u, vs[j]? = some u → w.cell? ⟨vb, j, none⟩ = some u) (hvl : vs.length = 6) (h1v : ∀ u ∈ vs, u.oneCell' = true) :
    Calls Try.prog 36 #[.slice (some ⟨g, 0, none⟩) n n, .int .i64 n, .slice (some ⟨vb, 0, none⟩) 1 1] w fun e w' => InsPost w B n (xs ++ vs) e w' := by
  obtain ⟨ii, hii, zi0, zi1, zi2⟩ := info_parts Try.infoInode
  have hgl := hx.lt
  have hsrc : Go.Src Try.prog ii.size 24 (.slice (some ⟨vb, 0, none⟩) 1 1) 1 vs w := Go.Src.ofSlice w Try.underlying24 ⟨vb, 0, none⟩ 1 1 vs (by rw [hvl, zi1]) (fun j u hj => by rw [Addr.add_lit, Nat.zero_add]; exact hv j u hj) h1v
  have hrun : ∀ ty, (Builtin.append_ #[24, 24] ty #[.slice (some ⟨g, 0, none⟩) n n, .slice (some ⟨vb, 0, none⟩) 1 1]).run Try.prog w = _ := fun ty => run_append_grow_src w 24 24 ty 30 ii _ Try.underlying24 hii zi0 (some ⟨g, 0, none⟩) n n xs (run_firstCells_some w.drew ii.size n ⟨g, 0, none⟩ n n xs (by rw [hx.len, zi1]) (fun j u hj => by rw [Addr.add_lit, Nat.zero_add]; exact hx.cell j u hj)) (.slice (some ⟨vb, 0, none⟩) 1 1) 1 vs hsrc (by omega) (by omega) (growslice_fits (by omega) (by rw [zi2]; omega))
  have hG := grownCap_ge w (n + 1) n 30
  have hG2 := grownCap_le_maxLen w (n + 1) n 30 (by unfold maxLen; omega)
  obtain ⟨G, hGG⟩ : ∃ G, grownCap w (n + 1) n 30 = G := ⟨_, rfl⟩
  rw [hGG] at hrun hG hG2
  have hlen : (xs ++ vs).length = (n + 1) * 6 := by rw [List.length_append, hx.len, hvl]; omega
  have hfin : Hid (InsPost w B n (xs ++ vs) (.returned (.slice (some ⟨w.heap.size, 0, none⟩) (n + 1) G)) (w.drew.alloc (.cells ((xs ++ vs).toArray ++ Builtin.zeroCells (Value.agg #[.int .i64 0, .int .i64 0, .int .i64 0, .slice none 0 0, .slice none 0 0, .slice none 0 0]).cells (G - (n + 1))) 30))) := by
    refine ⟨G, rfl, ⟨hlen, .inr ⟨w.heap.size, G, _, rfl, hB, heap_alloc_new w.drew _, hG, hG2, ?_, ?_⟩⟩, (Below.refl _ w).drew.alloc (Nat.le_refl _) _⟩
    · rw [Array.size_append, zeroCells_size, List.size_toArray, hlen]
      simp [Value.cells]
      omega
    · rw [← hlen, Array.toList_append, List.take_left' (by simp)]
  clear hG hG2 hlen hsrc hx hv
  have hn0 : (0 : Int) ≤ (n : Int) := by omega
  have hnn : (n : Int) ≤ (n : Int) := Int.le_refl _
  go_enter Try.func36, Try.ntmps36
  go_wp2_with (at_builtin; refine Lib.wpList_append_run _ rfl _ _ _ _ rfl _ _ rfl rfl _ _ (hrun _) ?_)
  go_ret
  exact hfin.out
set_option maxRecDepth 100000 in
set_option maxHeartbeats 4000000 in
theorem insert_mid (B g n vb k : Nat) (xs vs : List Value) (w : World) (hk : k < n) (hs : n ≤ 1048576) (hB : B ≤ w.heap.size) (hx : Full w g n xs) (hv : ∀ j u, vs[j]? = some u → w.cell? ⟨vb, j, none⟩ = some u) (hvl : vs.length = 6) (h1x : ∀ u ∈ xs, u.oneCell' = true) (h1v : ∀ u ∈ vs, u.oneCell' = true) (hvb : vb < w.heap.size) :
    Calls Try.prog 36 #[.slice (some ⟨g, 0, none⟩) n n, .int .i64 k, .slice (some ⟨vb, 0, none⟩) 1 1] w fun e w' => InsPost w B n (xs.take (k * 6) ++ vs ++ xs.drop (k * 6)) e w' := by
  obtain ⟨ii, hii, zi0, zi1, zi2⟩ := info_parts Try.infoInode
  have hgl := hx.lt
  have hlx := hx.len
  have hik : k + (n + 1 - k) = n + 1 := by omega
  have hold : (Builtin.firstCells ii.size k (.slice (some ⟨g, 0, none⟩) k n)).run Try.prog w.drew = .ok (xs.take (k * 6)).toArray w.drew :=
    run_firstCells_some w.drew ii.size k ⟨g, 0, none⟩ k n (xs.take (k * 6)) (by rw [List.length_take, hlx, zi1]; omega) (fun j u hj => by
      rw [Addr.add_lit, Nat.zero_add]
      rw [List.getElem?_take] at hj
      split at hj
      · exact hx.cell j u hj
      · cases hj)
  have hrz : ∀ ty, (Builtin.append_ #[24, 3] ty #[.slice (some ⟨g, 0, none⟩) k n, .int .i64 ((n : Int) + 1 - (k : Int))]).run Try.prog w = .ok (.slice (some ⟨w.heap.size, 0, none⟩) (n + 1) (grownCap w (n + 1) n 30)) (w.drew.alloc (.cells ((xs.take (k * 6)).toArray ++ Builtin.zeroCells (Value.agg #[.int .i64 0, .int .i64 0, .int .i64 0, .slice none 0 0, .slice none 0 0, .slice none 0 0]).cells (n + 1 - k) ++ Builtin.zeroCells (Value.agg #[.int .i64 0, .int .i64 0, .int .i64 0, .slice none 0 0, .slice none 0 0, .slice none 0 0]).cells (grownCap w (n + 1) n 30 - (n + 1))) 30)) := fun ty => by
    have h := Lib.run_append_grow_zeros w 24 3 ty 30 ii _ .i64 .i64 Try.underlying24 Try.underlying3 hii zi0 (some ⟨g, 0, none⟩) k n (xs.take (k * 6)) hold (n + 1 - k) (by omega) (by omega) (by omega) (by omega) (by rw [zi2]; omega) (by rw [zi2, hik]; exact growslice_fits (by omega) (by omega))
    rw [hik] at h
    rw [show (n : Int) + 1 - (k : Int) = ((n + 1 - k : Nat) : Int) by omega]
    exact h
  have hG := grownCap_ge w (n + 1) n 30
  have hG2 := grownCap_le_maxLen w (n + 1) n 30 (by unfold maxLen; omega)
  obtain ⟨G, hGG⟩ : ∃ G, grownCap w (n + 1) n 30 = G := ⟨_, rfl⟩
  rw [hGG] at hrz hG hG2
  obtain ⟨R1, hR1⟩ : ∃ R, (xs.take (k * 6)).toArray ++ Builtin.zeroCells (Value.agg #[.int .i64 0, .int .i64 0, .int .i64 0, .slice none 0 0, .slice none 0 0, .slice none 0 0]).cells (n + 1 - k) ++ Builtin.zeroCells (Value.agg #[.int .i64 0, .int .i64 0, .int .i64 0, .slice none 0 0, .slice none 0 0, .slice none 0 0]).cells (G - (n + 1)) = R := ⟨_, rfl⟩
  rw [hR1] at hrz
  have hs1 : R1.size = G * 6 := by
    rw [← hR1, Array.size_append, Array.size_append, zeroCells_size, zeroCells_size, List.size_toArray, List.length_take, hlx]
    simp [Value.cells]
    omega
  have ht1 : R1.toList.take (k * 6) = xs.take (k * 6) := by
    rw [← hR1]
    simp only [Array.toList_append, List.append_assoc]
    rw [List.take_left' (by simp; omega)]
  obtain ⟨W1, hW1⟩ : ∃ W, w.drew.alloc (.cells R1 30) = W := ⟨_, rfl⟩
  have hb1 : Below w.heap.size w W1 := by rw [← hW1]; exact (Below.refl _ w).drew.alloc (Nat.le_refl _) _
  have g1 : W1.heap[w.heap.size]? = some (.cells R1 30 (0, 0)) := by rw [← hW1]; exact heap_alloc_new w.drew _
  rw [hW1] at hrz
  have c1 : ∀ ty dc, (Builtin.copy_ #[24, 24] ty #[.slice (some ⟨w.heap.size, k * 6, none⟩) (n + 1 - k) dc, .slice (some ⟨vb, 0, none⟩) 1 1]).run Try.prog W1 = _ := fun ty dc => run_copy6 W1 ty w.heap.size (k * 6) (n + 1 - k) dc ⟨vb, 0, none⟩ 1 1 R1 _ vs 1 g1 (by simp only [Nat.min_def]; split <;> omega) (by omega) (fun j u hj => by rw [Addr.add_lit, Nat.zero_add]; exact (hb1.cell (p := ⟨vb, j, none⟩) hvb).trans (hv j u hj)) (by omega) h1v
  obtain ⟨R2, hR2⟩ : ∃ R, (R1.toList.take (k * 6) ++ vs ++ R1.toList.drop (k * 6 + vs.length)).toArray = R := ⟨_, rfl⟩
  rw [hR2] at c1
  have hs2 : R2.size = G * 6 := by
    rw [← hR2]
    simp
    omega
  have ht2 : R2.toList.take ((k + 1) * 6) = xs.take (k * 6) ++ vs := by
    rw [← hR2, ht1]
    dsimp only
    rw [List.take_left' (by rw [List.length_append, List.length_take, hlx]; omega)]
  have g2 : (W1.setRow w.heap.size R2).heap[w.heap.size]? = some (.cells R2 30 (0, 0)) := setRow_heap W1 w.heap.size R1 R2 _ _ g1
  have hb2 : Below w.heap.size w (W1.setRow w.heap.size R2) := hb1.grown (w' := W1.setRow w.heap.size R2) (gr_row W1 w.heap.size R2) hb1.size (fun m hm => by simp at hm; omega) --⟨rfl, rfl, rfl, by simp, fun k _ hk => setRow_other W1 w.heap.size k _ (fun e => hk (by simp [e]))⟩ hb1.size (fun m hm => by simp at hm; omega)
  obtain ⟨W2, hW2⟩ : ∃ W, W1.setRow w.heap.size R2 = W := ⟨_, rfl⟩
  rw [hW2] at c1 g2 hb2
  have c2 : ∀ ty dc sc, (Builtin.copy_ #[24, 24] ty #[.slice (some ⟨w.heap.size, (k + 1) * 6, none⟩) (n + 1 - (k + 1)) dc, .slice (some ⟨g, k * 6, none⟩) (n - k) sc]).run Try.prog W2.drew = _ := fun ty dc sc => run_copy6 W2.drew ty w.heap.size ((k + 1) * 6) (n + 1 - (k + 1)) dc ⟨g, k * 6, none⟩ (n - k) sc R2 _ (xs.drop (k * 6)) (n - k) g2 (by simp only [Nat.min_def]; split <;> omega) (by rw [List.length_drop, hlx]; omega) (fun j u hj => by
      rw [Addr.add_lit]
      refine (hb2.cell (p := ⟨g, k * 6 + j, none⟩) hgl).trans (hx.cell _ u ?_)
      rwa [List.getElem?_drop] at hj) (by rw [List.length_drop, hlx]; omega) (fun u hu => h1x u (List.mem_of_mem_drop hu))
  obtain ⟨R3, hR3⟩ : ∃ R, (R2.toList.take ((k + 1) * 6) ++ xs.drop (k * 6) ++ R2.toList.drop ((k + 1) * 6 + (xs.drop (k * 6)).length)).toArray = R := ⟨_, rfl⟩
  rw [hR3] at c2
  have hs3 : R3.size = G * 6 := by
    rw [← hR3]
    simp [hlx]
    omega
  have hlen : (xs.take (k * 6) ++ vs ++ xs.drop (k * 6)).length = (n + 1) * 6 := by
    simp [hlx]
    omega
  have ht3 : R3.toList.take ((n + 1) * 6) = xs.take (k * 6) ++ vs ++ xs.drop (k * 6) := by
    rw [← hR3, ht2]
    dsimp only
    rw [List.take_left' hlen]
  have hfin : Hid (InsPost w B n (xs.take (k * 6) ++ vs ++ xs.drop (k * 6)) (.returned (.slice (some ⟨w.heap.size, 0, none⟩) (n + 1) G)) (W2.drew.setRow w.heap.size R3)) := by
    refine ⟨G, rfl, ⟨hlen, .inr ⟨w.heap.size, G, R3, rfl, hB, setRow_heap W2.drew w.heap.size R2 R3 _ _ g2, hG, hG2, hs3, ht3⟩⟩, ?_⟩
    exact hb2.drew.grown (gr_row W2.drew w.heap.size R3) hb2.size (fun m hm => by simp at hm; omega)
  have hn1 : ¬ (k : Int) = (n : Int) := by omega
  have hn2 : (n : Int) < (n : Int) + 1 := by omega
  have hkn : (k : Int) ≤ (n : Int) := by omega
  have hk0 : (0 : Int) ≤ (k : Int) := by omega
  have hGk : ¬ (G = k) := by omega
  have hGk1 : ¬ (G = k + 1) := by omega
  have hnk : ¬ (n = k) := by omega
  have hnk2 : (k : Int) ≤ (n : Int) + 1 := by omega
  have hw1 : IntKind.i64.wrap ((k : Int) + 1) = (k : Int) + 1 := by rw [IntKind.wrap_i64]; omega
  have hw2 : (0 : Int) ≤ (k : Int) + 1 := by omega
  have hw3 : (k : Int) + 1 ≤ (n : Int) + 1 := by omega
  have hw4 : ((k : Int) + 1).toNat = k + 1 := by omega
  clear hG2 hold hR1 hs1 ht1 hb1 g1 hR2 hs2 ht2 g2 hb2 hR3 hs3 ht3 hlen hx hv hW1 hW2 hGG h1x h1v
  unfold maxLen at *
  go_enter Try.func36, Try.ntmps36
  go_wp2_with (first
    | (at_builtin; refine Lib.wpList_append_run _ rfl _ _ _ _ rfl _ _ rfl rfl _ _ (hrz _) ?_)
    | (at_builtin; refine wpList_copy_run _ rfl _ _ 24 24 rfl _ _ rfl rfl (c1 _ _) ?_))
  go_region_law (refine step_copy_run rfl _ _ 24 24 rfl (.slice (some ⟨w.heap.size, (k + 1) * 6, none⟩) (n + 1 - (k + 1)) (G - (k + 1))) (.slice (some ⟨g, k * 6, none⟩) (n - k) (n - k)) (by simp [Act.eval, Act.put]) (by simp [Act.eval, Act.put]) (c2 _ (G - (k + 1)) (n - k)) ?_)
  all_goals go_wp2
  all_goals go_ret
  all_goals exact hfin.out
/-- One inode put in. -/
theorem insert_any (B g n vb k : Nat) (xs vs : List Value) (w : World) (hk : k ≤ n) (hs : n ≤ 1048576) (hB : B ≤ w.heap.size) (hx : w.ownsRow B 30 6 (.slice (some ⟨g, 0, none⟩) n n) n xs) (hv : ∀ j u, vs[j]? = some u → w.cell? ⟨vb, j, none⟩ = some u) (hvl : vs.length = 6) (h1x : ∀ u ∈ xs, u.oneCell' = true) (h1v : ∀ u ∈ vs, u.oneCell' = true) (hvb : vb < w.heap.size) :
    Calls Try.prog 36 #[.slice (some ⟨g, 0, none⟩) n n, .int .i64 k, .slice (some ⟨vb, 0, none⟩) 1 1] w fun e w' => InsPost w B n (xs.take (k * 6) ++ vs ++ xs.drop (k * 6)) e w' := by
  rcases Nat.lt_or_eq_of_le hk with h | rfl
  · exact insert_mid B g n vb k xs vs w h hs hB (full_of hx) hv hvl h1x h1v hvb
  · have := insert_end B g k vb xs vs w hs hB (full_of hx) hv hvl h1v
    have hl := hx.1
    rw [List.take_of_length_le (by omega), List.drop_of_length_le (by omega), List.append_nil]
    exact this
end

section
open Go.RowKit
/-- The place, or -1. -/
def idxN (rs : List InoR) (x : Int) : Int := if placeOf rs x < rs.length then (placeOf rs x : Int) else -1
set_option maxHeartbeats 1600000 in
theorem clos_any (D : InoD) (a1 a2 a3 : Option Addr) (c1 c2 c3 : Nat) (x : Int) (X : Nat) (w : World) (hX : w.cell? ⟨X, 0, none⟩ = some (.int .i64 x)) :
    Calls Try.prog 35 #[.agg #[.int .i64 D.ino, .int .i64 D.kind, .int .i64 D.links, .slice a1 D.data.length c1, .slice a2 D.ents.length c2, .slice a3 D.attrs.length c3], .pointer (some ⟨X, 0, none⟩)] w fun e w' => e = .returned (.bool (decide (x < D.ino))) ∧ Below w.heap.size w w' := by
  have hlt := World.block_lt_of_cell? w _ hX
  have b0 : Below w.heap.size w (w.alloc (.cells #[.int .i64 D.ino, .int .i64 D.kind, .int .i64 D.links, .slice a1 D.data.length c1, .slice a2 D.ents.length c2, .slice a3 D.attrs.length c3] 30)) := (Below.refl _ w).alloc (Nat.le_refl _) _
  have hX' := (b0.cell (p := ⟨X, 0, none⟩) hlt).trans hX
  have z0 := (Blk.new w 30 #[.int .i64 D.ino, .int .i64 D.kind, .int .i64 D.links, .slice a1 D.data.length c1, .slice a2 D.ents.length c2, .slice a3 D.attrs.length c3]).cell 0
  simp at z0
  have HB : Hid _ := b0
  clear hX b0
  by_cases hx : x < D.ino
  · have hd : decide (x < D.ino) = true := by simpa using hx
    rw [hd]
    go_enter Try.func35, Try.ntmps35
    go_wp2
    go_ret
    exact ⟨by simp_all, HB.out⟩
  · have hd : decide (x < D.ino) = false := by simpa using hx
    rw [hd]
    go_enter Try.func35, Try.ntmps35
    go_wp2
    go_ret
    exact ⟨by simp_all, HB.out⟩
set_option maxRecDepth 100000 in
set_option maxHeartbeats 2000000 in
theorem indexFunc_any (a : Option Addr) (n cap : Nat) (rs : List InoR) (x : Int) (X : Nat) (w : World) (hn : rs.length = n) (hs : n ≤ 4000000) (hr : RdI w a rs) (hX : w.cell? ⟨X, 0, none⟩ = some (.int .i64 x)) :
    Calls Try.prog 34 #[.slice a n cap, .func (.func 35) #[] #[.pointer (some ⟨X, 0, none⟩)]] w fun e w' => e = .returned (.int .i64 (idxN rs x)) ∧ Below w.heap.size w w' := by
  have hXlt := World.block_lt_of_cell? w _ hX
  have HR : Hid _ := hr
  have HX : Hid _ := hX
  have hn' : Hid (rs.length = n) := hn
  have hY : Hid (∀ (k : Nat) (r : InoR), (∀ (j : Nat) (q : InoR), j < k → rs[j]? = some q → q.D.ino ≤ x) → rs[k]? = some r → x < r.D.ino → (k : Int) = idxN rs x) := by
    intro k r h hk he
    unfold idxN
    rw [placeOf_is hk he (fun j q hj hq => Int.not_lt.2 (h j q hj hq)), if_pos (List.getElem?_eq_some_iff.1 hk).1]
  have hE : Hid ((∀ (j : Nat) (q : InoR), j < n → rs[j]? = some q → q.D.ino ≤ x) → (-1 : Int) = idxN rs x) := by
    intro h
    unfold idxN
    rw [placeOf_end (fun j q hq => Int.not_lt.2 (h j q (by rw [← hn]; exact (List.getElem?_eq_some_iff.1 hq).1) hq)), if_neg (by omega)]
  generalize idxN rs x = R at hY hE ⊢
  clear hr hn hX
  go_enter Try.func34, Try.ntmps34
  go_wp2
  go_loopw [8] (fun i wr => ∃ k : Nat, k ≤ n ∧ i = .int .i64 k ∧ Hid (∀ (j : Nat) (q : InoR), j < k → rs[j]? = some q → q.D.ino ≤ x) ∧ Below w.heap.size w wr) (fun i _ => n - (intOf i).toNat)
  case atStart => exact ⟨0, Nat.zero_le _, rfl, fun j q hj => by omega, Below.refl _ _⟩
  case round =>
    obtain ⟨k, hk, rfl, hall, hB⟩ := hrel
    by_cases hkn : k < n
    · have hki : (k : Int) < (n : Int) := by omega
      obtain ⟨r, hrk⟩ : ∃ r, rs[k]? = some r := ⟨_, List.getElem?_eq_getElem (by rw [hn'.out]; exact hkn)⟩
      obtain ⟨b, off, rfl, hlt, hc⟩ := (RdI.keep HR.out hB).lt (by intro h; have := hn'.out; rw [h] at this; simp at this; omega)
      obtain ⟨⟨x0, x1, x2, x3, x4, x5⟩, _⟩ := hc k r hrk
      have hcc := clos_any r.D r.a1 r.a2 r.a3 r.c1 r.c2 r.c3 x X wr ((hB.cell (p := ⟨X, 0, none⟩) hXlt).trans HX.out)
      have hyes : Hid (x < r.D.ino → (k : Int) = R) := fun he => hY.out k r hall.out hrk he
      have hno : Hid (¬ x < r.D.ino → ∀ (j : Nat) (q : InoR), j < k + 1 → rs[j]? = some q → q.D.ino ≤ x) := by
        intro he j q hj hq
        rcases (show j < k ∨ j = k by omega) with h | rfl
        · exact hall.out j q h hq
        · rw [hrk] at hq
          simp at hq
          rw [← hq]
          exact Int.not_lt.1 he
      clear hc hrk hall hY hE HR HX
      by_cases he : x < r.D.ino
      · have hd : decide (x < r.D.ino) = true := by simpa using he
        rw [hd] at hcc
        have hend : Hid ((k : Int) = R) := hyes.out he
        clear hyes hno hd he
        go_wp2_with (go_at_call 35; (with_reducible refine hcc.mono ?_); rintro e w1 ⟨rfl, b1⟩)
        go_ret
        exact ⟨ret_int hend.out, hB.trans (b1.mono hB.size)⟩
      · have hd : decide (x < r.D.ino) = false := by simpa using he
        rw [hd] at hcc
        have hnx : Hid _ := hno.out he
        clear hyes hno hd he
        go_wp2_with (go_at_call 35; (with_reducible refine hcc.mono ?_); rintro e w1 ⟨rfl, b1⟩)
        go_roundw
        case rel => exact ⟨k + 1, by omega, by go_num, hnx, hB.trans (b1.mono hB.size)⟩
        case measure => simp [intOf]; omega
    · have hki : ¬ (k : Int) < (n : Int) := by omega
      have hend : Hid ((-1 : Int) = R) := hE.out (fun j q hj hq => hall.out j q (by omega) hq)
      clear hY hE HR hall HX
      go_wp2
      go_ret
      exact ⟨ret_int hend.out, hB⟩
end

section
open Go.RowKit Go.Maps
theorem below_al {w X : World} (h : Below w.heap.size w X) (o : Obj) : Below w.heap.size w (X.alloc o) := h.alloc h.size o
/-- What is known behind the copies: both arguments' boxes, the answer's, the table's copy in X, the inode's in Y. -/
structure SI (w W : World) (X Y : Nat) (nx : Int) (tv : Value) (xs : Array Value) (g n : Nat) (ds : List InoR) (js : List InoJ) (r' : InoR) (BT TT lo hi : Nat) : Prop where
  below : Below w.heap.size w W
  tb : Blk W w.heap.size 26 #[tv, .int .i64 nx]
  xb : Blk W (w.heap.size + 1) 30 xs
  res : Blk W (w.heap.size + 2) 26 #[.slice none 0 0, .int .i64 0]
  out : Blk W X 26 #[.slice (some ⟨g, 0, none⟩) n n, .int .i64 nx]
  own : Blk W Y 30 #[.int .i64 r'.D.ino, .int .i64 r'.D.kind, .int .i64 r'.D.links, .slice r'.a1 r'.D.data.length r'.c1, .slice r'.a2 r'.D.ents.length r'.c2, .slice r'.a3 r'.D.attrs.length r'.c3]
  q : DQA BT W (.slice (some ⟨g, 0, none⟩) n n) ds js
  apT : ApV TT (.slice (some ⟨g, 0, none⟩) n n) js
  G : (⟨r', lo, hi⟩ : InoJ).G W
  ord : w.heap.size + 3 ≤ BT ∧ BT ≤ TT ∧ TT ≤ lo ∧ lo ≤ hi ∧ hi ≤ W.heap.size
  hX : w.heap.size + 3 ≤ X ∧ (X < BT ∨ TT ≤ X) ∧ (X < lo ∨ hi ≤ X)
  hY : w.heap.size + 3 ≤ Y ∧ (Y < BT ∨ TT ≤ Y) ∧ (Y < lo ∨ hi ≤ Y)
  ne : X ≠ Y
theorem SI.keep {w W W' : World} {X Y : Nat} {nx : Int} {tv : Value} {xs : Array Value} {g n : Nat} {ds : List InoR} {js : List InoJ} {r' : InoR} {BT TT lo hi : Nat} (h : SI w W X Y nx tv xs g n ds js r' BT TT lo hi) (hb : Below W.heap.size W W') : SI w W' X Y nx tv xs g n ds js r' BT TT lo hi :=
  ⟨h.below.trans (hb.mono h.below.size), h.tb.keep hb, h.xb.keep hb, h.res.keep hb, h.out.keep hb, h.own.keep hb, h.q.keep hb, h.apT, InoG.keep h.G h.ord.2.2.2.2 hb, ⟨h.ord.1, h.ord.2.1, h.ord.2.2.1, h.ord.2.2.2.1, Nat.le_trans h.ord.2.2.2.2 hb.size⟩, h.hX, h.hY, h.ne⟩
/-- The same without the two boxes. -/
structure SB (w W : World) (nx : Int) (tv : Value) (xs : Array Value) (g n : Nat) (ds : List InoR) (js : List InoJ) (r' : InoR) (BT TT lo hi : Nat) : Prop where
  below : Below w.heap.size w W
  tb : Blk W w.heap.size 26 #[tv, .int .i64 nx]
  xb : Blk W (w.heap.size + 1) 30 xs
  res : Blk W (w.heap.size + 2) 26 #[.slice none 0 0, .int .i64 0]
  q : DQA BT W (.slice (some ⟨g, 0, none⟩) n n) ds js
  apT : ApV TT (.slice (some ⟨g, 0, none⟩) n n) js
  G : (⟨r', lo, hi⟩ : InoJ).G W
  ord : w.heap.size + 3 ≤ BT ∧ BT ≤ TT ∧ TT ≤ lo ∧ lo ≤ hi ∧ hi ≤ W.heap.size
theorem SB.keep {w W W' : World} {nx : Int} {tv : Value} {xs : Array Value} {g n : Nat} {ds : List InoR} {js : List InoJ} {r' : InoR} {BT TT lo hi : Nat} (h : SB w W nx tv xs g n ds js r' BT TT lo hi) (hb : Below W.heap.size W W') : SB w W' nx tv xs g n ds js r' BT TT lo hi :=
  ⟨h.below.trans (hb.mono h.below.size), h.tb.keep hb, h.xb.keep hb, h.res.keep hb, h.q.keep hb, h.apT, InoG.keep h.G h.ord.2.2.2.2 hb, ⟨h.ord.1, h.ord.2.1, h.ord.2.2.1, h.ord.2.2.2.1, Nat.le_trans h.ord.2.2.2.2 hb.size⟩⟩
/-- A place that is none of those that are told of. -/
def Free (w : World) (BT TT lo hi Z : Nat) : Prop := w.heap.size + 3 ≤ Z ∧ (Z < BT ∨ TT ≤ Z) ∧ (Z < lo ∨ hi ≤ Z)
theorem free_mk {w : World} {BT TT lo hi Z : Nat} (h1 : w.heap.size + 3 ≤ Z) (h2 : Z < BT ∨ TT ≤ Z) (h3 : Z < lo ∨ hi ≤ Z) : Free w BT TT lo hi Z := ⟨h1, h2, h3⟩
theorem SB.st {w W : World} {nx : Int} {tv : Value} {xs : Array Value} {g n : Nat} {ds : List InoR} {js : List InoJ} {r' : InoR} {BT TT lo hi Z : Nat} (h : SB w W nx tv xs g n ds js r' BT TT lo hi) (hZ : Free w BT TT lo hi Z) (i : Nat) (v : Value) : SB w (W.setCell ⟨Z, i, none⟩ v) nx tv xs g n ds js r' BT TT lo hi := by
  obtain ⟨h1, h2, h3⟩ := hZ
  have hg := h.apT.2 g rfl
  have hgB := (World.ownsRow.lt h.q.row g rfl).1
  have ho := h.ord
  refine ⟨h.below.setCell (p := ⟨Z, i, none⟩) (by simp only; omega) _, h.tb.other (by omega) i v, h.xb.other (by omega) i v, h.res.other (by omega) i v, h.q.setY (fun m hm => by simp [Value.ownBlock] at hm; omega) (fun k j e => by have := h.apT.1 k j e; have := h.q.lo k j e; omega) i v, h.apT, h.G.gr ho.2.2.2.2 (gr_setC W Z i v) h3, ?_⟩
  simp only [World.setCell, Array.size_modify]
  exact ho
theorem sb_mk {w W0 A w11 C w13 : World} {nx : Int} {tv : Value} {xs : Array Value} {g n : Nat} {ds : List InoR} {js : List InoJ} {r' : InoR} (B0 : Below w.heap.size w W0) (hz : W0.heap.size = w.heap.size + 3) (hA : W0.heap.size ≤ A.heap.size) (q11 : DQT A.heap.size w11 (.slice (some ⟨g, 0, none⟩) n n) ds js) (b11 : Below A.heap.size A w11) (hC : w11.heap.size ≤ C.heap.size) (bQ : Below w11.heap.size w11 w13) (gC : (⟨r', C.heap.size, w13.heap.size⟩ : InoJ).G w13) (b13 : Below C.heap.size C w13) (B13 : Below W0.heap.size W0 w13) (z0 : Blk W0 w.heap.size 26 #[tv, .int .i64 nx]) (z1 : Blk W0 (w.heap.size + 1) 30 xs) (z2 : Blk W0 (w.heap.size + 2) 26 #[.slice none 0 0, .int .i64 0]) :
    SB w w13 nx tv xs g n ds js r' A.heap.size w11.heap.size C.heap.size w13.heap.size :=
  ⟨below_tr B0 B13, z0.keep B13, z1.keep B13, z2.keep B13, q11.dqa.keep bQ, q11.apV, gC, by omega, b11.size, hC, b13.size, Nat.le_refl _⟩
theorem si_f1 {w W : World} {nx : Int} {tv : Value} {xs : Array Value} {g n : Nat} {ds : List InoR} {js : List InoJ} {r' : InoR} {BT TT lo : Nat} (h : SB w W nx tv xs g n ds js r' BT TT lo W.heap.size) :
    SI w ((W.alloc (.cells #[.slice (some ⟨g, 0, none⟩) n n, .int .i64 nx] 26)).alloc (.cells #[.int .i64 r'.D.ino, .int .i64 r'.D.kind, .int .i64 r'.D.links, .slice r'.a1 r'.D.data.length r'.c1, .slice r'.a2 r'.D.ents.length r'.c2, .slice r'.a3 r'.D.attrs.length r'.c3] 30)) W.heap.size (W.heap.size + 1) nx tv xs g n ds js r' BT TT lo W.heap.size := by
  have ho := h.ord
  have h2 := h.keep (((Below.refl _ W).alloc (Nat.le_refl _) (.cells #[.slice (some ⟨g, 0, none⟩) n n, .int .i64 nx] 26)).alloc (by simp) (.cells #[.int .i64 r'.D.ino, .int .i64 r'.D.kind, .int .i64 r'.D.links, .slice r'.a1 r'.D.data.length r'.c1, .slice r'.a2 r'.D.ents.length r'.c2, .slice r'.a3 r'.D.attrs.length r'.c3] 30))
  exact ⟨h2.below, h2.tb, h2.xb, h2.res, (Blk.new W _ _).alloc _, Blk.newAt (by simp), h2.q, h2.apT, h2.G, h2.ord, by omega, by omega, by omega⟩
theorem si_f2 {w W : World} {nx : Int} {tv : Value} {xs : Array Value} {g n : Nat} {ds : List InoR} {js : List InoJ} {r' : InoR} {BT TT lo : Nat} (h : SB w W nx tv xs g n ds js r' BT TT lo W.heap.size) :
    SI w ((W.alloc (.cells #[.int .i64 r'.D.ino, .int .i64 r'.D.kind, .int .i64 r'.D.links, .slice r'.a1 r'.D.data.length r'.c1, .slice r'.a2 r'.D.ents.length r'.c2, .slice r'.a3 r'.D.attrs.length r'.c3] 30)).alloc (.cells #[.slice (some ⟨g, 0, none⟩) n n, .int .i64 nx] 26)) (W.heap.size + 1) W.heap.size nx tv xs g n ds js r' BT TT lo W.heap.size := by
  have ho := h.ord
  have h2 := h.keep (((Below.refl _ W).alloc (Nat.le_refl _) (.cells #[.int .i64 r'.D.ino, .int .i64 r'.D.kind, .int .i64 r'.D.links, .slice r'.a1 r'.D.data.length r'.c1, .slice r'.a2 r'.D.ents.length r'.c2, .slice r'.a3 r'.D.attrs.length r'.c3] 30)).alloc (by simp) (.cells #[.slice (some ⟨g, 0, none⟩) n n, .int .i64 nx] 26))
  exact ⟨h2.below, h2.tb, h2.xb, h2.res, Blk.newAt (by simp), (Blk.new W _ _).alloc _, h2.q, h2.apT, h2.G, h2.ord, by omega, by omega, by omega⟩
theorem si_f3 {w W : World} {nx : Int} {tv : Value} {xs : Array Value} {g n X : Nat} {ds : List InoR} {js : List InoJ} {r' : InoR} {BT TT lo : Nat} (h : SB w W nx tv xs g n ds js r' BT TT lo W.heap.size) (kT : Blk W X 26 #[.slice none 0 0, .int .i64 0]) (hX : Free w BT TT lo W.heap.size X) :
    SI w (((W.setCell ⟨X, 0, none⟩ (.slice (some ⟨g, 0, none⟩) n n)).setCell ⟨X, 1, none⟩ (.int .i64 nx)).alloc (.cells #[.int .i64 r'.D.ino, .int .i64 r'.D.kind, .int .i64 r'.D.links, .slice r'.a1 r'.D.data.length r'.c1, .slice r'.a2 r'.D.ents.length r'.c2, .slice r'.a3 r'.D.attrs.length r'.c3] 30)) X W.heap.size nx tv xs g n ds js r' BT TT lo W.heap.size := by
  have ho := h.ord
  have hl := kT.lt
  have h1 := (h.st hX 0 (.slice (some ⟨g, 0, none⟩) n n)).st hX 1 (.int .i64 nx)
  have h2 := h1.keep ((Below.refl _ _).alloc (Nat.le_refl _) (.cells #[.int .i64 r'.D.ino, .int .i64 r'.D.kind, .int .i64 r'.D.links, .slice r'.a1 r'.D.data.length r'.c1, .slice r'.a2 r'.D.ents.length r'.c2, .slice r'.a3 r'.D.attrs.length r'.c3] 30))
  exact ⟨h2.below, h2.tb, h2.xb, h2.res, ((kT.set 0 _).set 1 _).alloc _, Blk.newAt (by simp [World.setCell]), h2.q, h2.apT, h2.G, h2.ord, hX, by omega, by omega⟩
theorem si_f4 {w W : World} {nx : Int} {tv : Value} {xs : Array Value} {g n Y : Nat} {ds : List InoR} {js : List InoJ} {r' : InoR} {BT TT lo : Nat} (h : SB w W nx tv xs g n ds js r' BT TT lo W.heap.size) (kI : Blk W Y 30 #[.int .i64 0, .int .i64 0, .int .i64 0, .slice none 0 0, .slice none 0 0, .slice none 0 0]) (hY : Free w BT TT lo W.heap.size Y) :
    SI w (((((((W.setCell ⟨Y, 0, none⟩ (.int .i64 r'.D.ino)).setCell ⟨Y, 1, none⟩ (.int .i64 r'.D.kind)).setCell ⟨Y, 2, none⟩ (.int .i64 r'.D.links)).setCell ⟨Y, 3, none⟩ (.slice r'.a1 r'.D.data.length r'.c1)).setCell ⟨Y, 4, none⟩ (.slice r'.a2 r'.D.ents.length r'.c2)).setCell ⟨Y, 5, none⟩ (.slice r'.a3 r'.D.attrs.length r'.c3)).alloc (.cells #[.slice (some ⟨g, 0, none⟩) n n, .int .i64 nx] 26)) W.heap.size Y nx tv xs g n ds js r' BT TT lo W.heap.size := by
  have ho := h.ord
  have hl := kI.lt
  have h1 := (((((h.st hY 0 (.int .i64 r'.D.ino)).st hY 1 (.int .i64 r'.D.kind)).st hY 2 (.int .i64 r'.D.links)).st hY 3 (.slice r'.a1 r'.D.data.length r'.c1)).st hY 4 (.slice r'.a2 r'.D.ents.length r'.c2)).st hY 5 (.slice r'.a3 r'.D.attrs.length r'.c3)
  have h2 := h1.keep ((Below.refl _ _).alloc (Nat.le_refl _) (.cells #[.slice (some ⟨g, 0, none⟩) n n, .int .i64 nx] 26))
  exact ⟨h2.below, h2.tb, h2.xb, h2.res, Blk.newAt (by simp [World.setCell]), ((((((kI.set 0 _).set 1 _).set 2 _).set 3 _).set 4 _).set 5 _).alloc _, h2.q, h2.apT, h2.G, h2.ord, by omega, hY, by omega⟩
theorem si_f5 {w W : World} {nx : Int} {tv : Value} {xs : Array Value} {g n X Y : Nat} {ds : List InoR} {js : List InoJ} {r' : InoR} {BT TT lo : Nat} (h : SB w W nx tv xs g n ds js r' BT TT lo W.heap.size) (kT : Blk W X 26 #[.slice none 0 0, .int .i64 0]) (kI : Blk W Y 30 #[.int .i64 0, .int .i64 0, .int .i64 0, .slice none 0 0, .slice none 0 0, .slice none 0 0]) (hX : Free w BT TT lo W.heap.size X) (hY : Free w BT TT lo W.heap.size Y) (hne : X ≠ Y) :
    SI w ((((((((W.setCell ⟨X, 0, none⟩ (.slice (some ⟨g, 0, none⟩) n n)).setCell ⟨X, 1, none⟩ (.int .i64 nx)).setCell ⟨Y, 0, none⟩ (.int .i64 r'.D.ino)).setCell ⟨Y, 1, none⟩ (.int .i64 r'.D.kind)).setCell ⟨Y, 2, none⟩ (.int .i64 r'.D.links)).setCell ⟨Y, 3, none⟩ (.slice r'.a1 r'.D.data.length r'.c1)).setCell ⟨Y, 4, none⟩ (.slice r'.a2 r'.D.ents.length r'.c2)).setCell ⟨Y, 5, none⟩ (.slice r'.a3 r'.D.attrs.length r'.c3)) X Y nx tv xs g n ds js r' BT TT lo W.heap.size := by
  have h0 := (h.st hX 0 (.slice (some ⟨g, 0, none⟩) n n)).st hX 1 (.int .i64 nx)
  have h2 := (((((h0.st hY 0 (.int .i64 r'.D.ino)).st hY 1 (.int .i64 r'.D.kind)).st hY 2 (.int .i64 r'.D.links)).st hY 3 (.slice r'.a1 r'.D.data.length r'.c1)).st hY 4 (.slice r'.a2 r'.D.ents.length r'.c2)).st hY 5 (.slice r'.a3 r'.D.attrs.length r'.c3)
  exact ⟨h2.below, h2.tb, h2.xb, h2.res, ((((((((kT.set 0 _).set 1 _).other hne 0 _).other hne 1 _).other hne 2 _).other hne 3 _).other hne 4 _).other hne 5 _), (((((((kI.other (Ne.symm hne) 0 _).other (Ne.symm hne) 1 _).set 0 _).set 1 _).set 2 _).set 3 _).set 4 _).set 5 _, h2.q, h2.apT, h2.G, h2.ord, hX, hY, hne⟩
theorem look_some {W : World} {M cnt p : Nat} {Dm : DataW Unit} {rs : List InoR} {x : Int} (hown : W.ownsMap Try.prog 3 (plainElem Try.prog 3) M cnt Dm) (hM : MapIs Dm (inos rs)) (hwx : (Lit.int .i64 x).wf = true) (hf : firstAt (inos rs) x = some p) :
    (Instr.lookup 59 (.map (some M)) (.int .i64 x) true).run Try.prog W = .ok (.tuple #[.int .i64 (p : Int), .bool true]) W := by
  obtain ⟨v, ps, hrun, hv⟩ := hown.look_ok Try.keyInt Try.underlying59 (Try.zeroInt W) (plainElem_int Try.underlying3 (by decide)) (keyOf_int_mk Try.underlying3 hwx)
  obtain ⟨c, rfl, hc, _⟩ := plainElem_int_inv Try.underlying3 hv
  have h1 := (hM.2 x).2 p hf
  have h2 : Dm.atKey (.int .i64 x) (.lit (.int .i64 0)) = .lit (.int .i64 c) := congrArg Prod.fst hc
  rw [h2] at h1
  simp at h1
  rw [hrun, (hM.2 x).1, hf, h1]
  rfl
theorem look_none {W : World} {M cnt : Nat} {Dm : DataW Unit} {rs : List InoR} {x : Int} (hown : W.ownsMap Try.prog 3 (plainElem Try.prog 3) M cnt Dm) (hM : MapIs Dm (inos rs)) (hwx : (Lit.int .i64 x).wf = true) (hf : firstAt (inos rs) x = none) :
    ∃ c : Int, (Instr.lookup 59 (.map (some M)) (.int .i64 x) true).run Try.prog W = .ok (.tuple #[.int .i64 c, .bool false]) W := by
  obtain ⟨v, ps, hrun, hv⟩ := hown.look_ok Try.keyInt Try.underlying59 (Try.zeroInt W) (plainElem_int Try.underlying3 (by decide)) (keyOf_int_mk Try.underlying3 hwx)
  obtain ⟨c, rfl, hc, _⟩ := plainElem_int_inv Try.underlying3 hv
  refine ⟨c, ?_⟩
  rw [hrun, (hM.2 x).1, hf]
  rfl
/-- What is known behind the copies, of the two boxes' places. -/
def SIR (w : World) (nx : Int) (tv : Value) (xs : Array Value) (n : Nat) (ds : List InoR) (D : InoD) (s5 s6 : Value) (wx : World) : Prop :=
  ∃ (X Y g : Nat) (js : List InoJ) (b1 : Option Addr) (d1 : Nat) (b2 : Option Addr) (d2 : Nat) (b3 : Option Addr) (d3 : Nat) (BT TT lo hi : Nat), s5 = .pointer (some ⟨X, 0, none⟩) ∧ s6 = .pointer (some ⟨Y, 0, none⟩) ∧ js.length = n ∧ SI w wx X Y nx tv xs g n ds js ⟨D, b1, d1, b2, d2, b3, d3⟩ BT TT lo hi
theorem sir_mk {w : World} {nx : Int} {tv : Value} {xs : Array Value} {n : Nat} {ds : List InoR} {D : InoD} {wx : World} {X Y g : Nat} {js : List InoJ} {b1 : Option Addr} {d1 : Nat} {b2 : Option Addr} {d2 : Nat} {b3 : Option Addr} {d3 : Nat} {BT TT lo hi : Nat} (hjn : js.length = n) (h : SI w wx X Y nx tv xs g n ds js ⟨D, b1, d1, b2, d2, b3, d3⟩ BT TT lo hi) : SIR w nx tv xs n ds D (.pointer (some ⟨X, 0, none⟩)) (.pointer (some ⟨Y, 0, none⟩)) wx :=
  ⟨X, Y, g, js, b1, d1, b2, d2, b3, d3, BT, TT, lo, hi, rfl, rfl, hjn, h⟩
set_option maxRecDepth 100000 in
set_option maxHeartbeats 8000000 in
theorem setI (a : Option Addr) (n cap : Nat) (nx : Int) (rs : List InoR) (D : InoD) (a1 a2 a3 : Option Addr) (c1 c2 c3 : Nat) (w : World) (hn : rs.length = n) (hs : n ≤ 1048576) (hwx : (Lit.int .i64 D.ino).wf = true) (hwf : ∀ r ∈ rs, (Lit.int .i64 r.D.ino).wf = true) (hsm : ∀ r ∈ rs, InoSmall r.D) (hsx : InoSmall D) (hr : RdI w a rs) (hx : InoRd w D a1 a2 a3)  :
    Calls Try.prog 9 #[.agg #[.slice a n cap, .int .i64 nx], .agg #[.int .i64 D.ino, .int .i64 D.kind, .int .i64 D.links, .slice a1 D.data.length c1, .slice a2 D.ents.length c2, .slice a3 D.attrs.length c3]] w fun e w' => SetPost w nx (setR rs ⟨D, a1, c1, a2, c2, a3, c3⟩) e w' := by
  skip
  have B0 : Below w.heap.size w (((w.alloc (.cells #[.slice a n cap, .int .i64 nx] 26)).alloc (.cells #[.int .i64 D.ino, .int .i64 D.kind, .int .i64 D.links, .slice a1 D.data.length c1, .slice a2 D.ents.length c2, .slice a3 D.attrs.length c3] 30)).alloc (.cells #[.slice none 0 0, .int .i64 0] 26)) := (((Below.refl _ w).alloc (Nat.le_refl _) _).alloc (by simp) _).alloc (by simp; omega) _
  have z0 := ((Blk.new w 26 #[.slice a n cap, .int .i64 nx]).alloc (.cells #[.int .i64 D.ino, .int .i64 D.kind, .int .i64 D.links, .slice a1 D.data.length c1, .slice a2 D.ents.length c2, .slice a3 D.attrs.length c3] 30)).alloc (.cells #[.slice none 0 0, .int .i64 0] 26)
  have z1 := (Blk.new (w.alloc (.cells #[.slice a n cap, .int .i64 nx] 26)) 30 #[.int .i64 D.ino, .int .i64 D.kind, .int .i64 D.links, .slice a1 D.data.length c1, .slice a2 D.ents.length c2, .slice a3 D.attrs.length c3]).alloc (.cells #[.slice none 0 0, .int .i64 0] 26)
  have z2 := Blk.new ((w.alloc (.cells #[.slice a n cap, .int .i64 nx] 26)).alloc (.cells #[.int .i64 D.ino, .int .i64 D.kind, .int .i64 D.links, .slice a1 D.data.length c1, .slice a2 D.ents.length c2, .slice a3 D.attrs.length c3] 30)) 26 #[.slice none 0 0, .int .i64 0]
  have hsz : (((w.alloc (.cells #[.slice a n cap, .int .i64 nx] 26)).alloc (.cells #[.int .i64 D.ino, .int .i64 D.kind, .int .i64 D.links, .slice a1 D.data.length c1, .slice a2 D.ents.length c2, .slice a3 D.attrs.length c3] 30)).alloc (.cells #[.slice none 0 0, .int .i64 0] 26)).heap.size = w.heap.size + 3 := by simp
  simp only [World.size_alloc] at z1 z2
  go_enter Try.func9, Try.ntmps9
  go_upto_region 1 with fail
  obtain ⟨W0, hW0⟩ : ∃ W, ((w.alloc (.cells #[.slice a n cap, .int .i64 nx] 26)).alloc (.cells #[.int .i64 D.ino, .int .i64 D.kind, .int .i64 D.links, .slice a1 D.data.length c1, .slice a2 D.ents.length c2, .slice a3 D.attrs.length c3] 30)).alloc (.cells #[.slice none 0 0, .int .i64 0] 26) = W := ⟨_, rfl⟩
  rw [hW0] at B0 z0 z1 z2 hsz ⊢
  have HSZ : Hid _ := hsz
  have hz2 : w.heap.size + 2 < W0.heap.size := by omega
  clear hW0 hsz
  have hcT : ∀ W : World, Below W0.heap.size W0 W → _ := fun W hb => copyTab_any a n cap nx rs W hn hs hsm (hr.keep (below_tr B0 hb))
  have hcI : ∀ W : World, Below W0.heap.size W0 W → _ := fun W hb => copyInode_any D a1 a2 a3 c1 c2 c3 W hsx (InoRd.keep hx (below_tr B0 hb))
  have HT : Hid _ := hcT
  have HI : Hid _ := hcI
  have HZ : Hid _ := And.intro z0 z1
  have bR : Below W0.heap.size W0 W0 := Below.refl _ W0
  have bD : Below W0.heap.size W0 W0.drew := bR.drew
  have t0 := z0.cell 0
  have t1 := z0.cell 1
  simp at t0 t1
  obtain ⟨x0, x1, x2, x3, x4, x5⟩ := z1.six
  clear z0 z1 hcT hcI
  have nP0a : ¬ w.heap.size = W0.heap.size := (by omega)
  have nP0b : ¬ W0.heap.size = w.heap.size := (by omega)
  have nP1a : ¬ w.heap.size + 1 = W0.heap.size := (by omega)
  have nP1b : ¬ W0.heap.size = w.heap.size + 1 := (by omega)
  have nQ0a : ¬ w.heap.size = W0.heap.size + 1 := (by omega)
  have nQ0b : ¬ W0.heap.size + 1 = w.heap.size := (by omega)
  have nQ1a : ¬ w.heap.size + 1 = W0.heap.size + 1 := (by omega)
  have nQ1b : ¬ W0.heap.size + 1 = w.heap.size + 1 := (by omega)
  go_cut [5, 6] (fun s5 s6 wx => SIR w nx (.slice a n cap) #[.int .i64 D.ino, .int .i64 D.kind, .int .i64 D.links, .slice a1 D.data.length c1, .slice a2 D.ents.length c2, .slice a3 D.attrs.length c3] n rs D s5 s6 wx)
  case first =>
    go_region_held3 (fun W : World => W.cell? ⟨w.heap.size, 0, none⟩ = some (.slice a n cap) ∧ W.cell? ⟨w.heap.size, 1, none⟩ = some (.int .i64 nx) ∧ W.cell? ⟨w.heap.size + 1, 0, none⟩ = some (.int .i64 D.ino) ∧ W.cell? ⟨w.heap.size + 1, 1, none⟩ = some (.int .i64 D.kind) ∧ W.cell? ⟨w.heap.size + 1, 2, none⟩ = some (.int .i64 D.links) ∧ W.cell? ⟨w.heap.size + 1, 3, none⟩ = some (.slice a1 D.data.length c1) ∧ W.cell? ⟨w.heap.size + 1, 4, none⟩ = some (.slice a2 D.ents.length c2) ∧ W.cell? ⟨w.heap.size + 1, 5, none⟩ = some (.slice a3 D.attrs.length c3)) (go_keep) (first
      | (go_at_call 31; (with_reducible refine (HT.out _ (by first | with_reducible exact bD | with_reducible exact (below_al bR _).drew | with_reducible exact (below_al (below_al bR _) _).drew)).mono ?_); rintro e w11 ⟨g, js, rfl, hjn, q11, b11⟩; have B11 : Below W0.heap.size W0 w11 := below_tr (by first | with_reducible exact bD | with_reducible exact (below_al bR _).drew | with_reducible exact (below_al (below_al bR _) _).drew) b11; have hs11 := b11.size; (try simp at hs11); have y0 := (HZ.out.1.keep B11).cell 0; have y1 := (HZ.out.1.keep B11).cell 1; (simp at y0 y1); obtain ⟨y2, y3, y4, y5, y6, y7⟩ := (HZ.out.2.keep B11).six; (first | (with_reducible (have kT : Blk w11 W0.heap.size 26 #[.slice none 0 0, .int .i64 0] := Blk.keep (W := (W0.alloc (.cells #[.slice none 0 0, .int .i64 0] 26)).drew) (Blk.drew (Blk.newAt rfl)) b11)) | (with_reducible (have kI : Blk w11 W0.heap.size 30 #[.int .i64 0, .int .i64 0, .int .i64 0, .slice none 0 0, .slice none 0 0, .slice none 0 0] := Blk.keep (W := (W0.alloc (.cells #[.int .i64 0, .int .i64 0, .int .i64 0, .slice none 0 0, .slice none 0 0, .slice none 0 0] 30)).drew) (Blk.drew (Blk.newAt rfl)) b11)) | ((with_reducible (have kT : Blk w11 W0.heap.size 26 #[.slice none 0 0, .int .i64 0] := Blk.keep (W := ((W0.alloc (.cells #[.slice none 0 0, .int .i64 0] 26)).alloc (.cells #[.int .i64 0, .int .i64 0, .int .i64 0, .slice none 0 0, .slice none 0 0, .slice none 0 0] 30)).drew) (Blk.drew (Blk.alloc (Blk.newAt rfl) _)) b11)); have kI : Blk w11 (W0.heap.size + 1) 30 #[.int .i64 0, .int .i64 0, .int .i64 0, .slice none 0 0, .slice none 0 0, .slice none 0 0] := Blk.keep (W := ((W0.alloc (.cells #[.slice none 0 0, .int .i64 0] 26)).alloc (.cells #[.int .i64 0, .int .i64 0, .int .i64 0, .slice none 0 0, .slice none 0 0, .slice none 0 0] 30)).drew) (Blk.drew (Blk.newAt (by simp))) b11) | ((with_reducible (have kI : Blk w11 W0.heap.size 30 #[.int .i64 0, .int .i64 0, .int .i64 0, .slice none 0 0, .slice none 0 0, .slice none 0 0] := Blk.keep (W := ((W0.alloc (.cells #[.int .i64 0, .int .i64 0, .int .i64 0, .slice none 0 0, .slice none 0 0, .slice none 0 0] 30)).alloc (.cells #[.slice none 0 0, .int .i64 0] 26)).drew) (Blk.drew (Blk.alloc (Blk.newAt rfl) _)) b11)); have kT : Blk w11 (W0.heap.size + 1) 26 #[.slice none 0 0, .int .i64 0] := Blk.keep (W := ((W0.alloc (.cells #[.int .i64 0, .int .i64 0, .int .i64 0, .slice none 0 0, .slice none 0 0, .slice none 0 0] 30)).alloc (.cells #[.slice none 0 0, .int .i64 0] 26)).drew) (Blk.drew (Blk.newAt (by simp))) b11) | skip); have hq11 := B11.size; have nR0a : ¬ w.heap.size = w11.heap.size := (by omega); have nR0b : ¬ w11.heap.size = w.heap.size := (by omega); have nR1a : ¬ w.heap.size + 1 = w11.heap.size := (by omega); have nR1b : ¬ w11.heap.size = w.heap.size + 1 := (by omega); have nT0a : ¬ w.heap.size = w11.heap.size + 1 := (by omega); have nT0b : ¬ w11.heap.size + 1 = w.heap.size := (by omega); have nT1a : ¬ w.heap.size + 1 = w11.heap.size + 1 := (by omega); have nT1b : ¬ w11.heap.size + 1 = w.heap.size + 1 := (by omega))
      | (go_at_call 32; (with_reducible refine (HI.out _ (by first | with_reducible exact B11 | with_reducible exact below_al B11 _ | with_reducible exact below_al (below_al B11 _) _)).mono ?_); rintro e w13 ⟨b1, d1, b2, d2, b3, d3, rfl, gC, b13⟩; have B13 : Below W0.heap.size W0 w13 := below_tr (by first | with_reducible exact B11 | with_reducible exact below_al B11 _ | with_reducible exact below_al (below_al B11 _) _) b13; have hs13 := b13.size; (try simp at hs13); have y0 := (HZ.out.1.keep B13).cell 0; have y1 := (HZ.out.1.keep B13).cell 1; (simp at y0 y1); obtain ⟨y2, y3, y4, y5, y6, y7⟩ := (HZ.out.2.keep B13).six; have bQ : Below w11.heap.size w11 w13 := below_tr (by first | with_reducible exact (Below.refl w11.heap.size w11) | with_reducible exact below_al (Below.refl w11.heap.size w11) _ | with_reducible exact below_al (below_al (Below.refl w11.heap.size w11) _) _) b13; (try (have kT := kT.keep bQ)); (try (have kI := kI.keep bQ)); (first | (with_reducible (have kT : Blk w13 w11.heap.size 26 #[.slice none 0 0, .int .i64 0] := Blk.keep (W := w11.alloc (.cells #[.slice none 0 0, .int .i64 0] 26)) (Blk.newAt rfl) b13)) | (with_reducible (have kI : Blk w13 w11.heap.size 30 #[.int .i64 0, .int .i64 0, .int .i64 0, .slice none 0 0, .slice none 0 0, .slice none 0 0] := Blk.keep (W := w11.alloc (.cells #[.int .i64 0, .int .i64 0, .int .i64 0, .slice none 0 0, .slice none 0 0, .slice none 0 0] 30)) (Blk.newAt rfl) b13)) | ((with_reducible (have kT : Blk w13 w11.heap.size 26 #[.slice none 0 0, .int .i64 0] := Blk.keep (W := (w11.alloc (.cells #[.slice none 0 0, .int .i64 0] 26)).alloc (.cells #[.int .i64 0, .int .i64 0, .int .i64 0, .slice none 0 0, .slice none 0 0, .slice none 0 0] 30)) (Blk.alloc (Blk.newAt rfl) _) b13)); have kI : Blk w13 (w11.heap.size + 1) 30 #[.int .i64 0, .int .i64 0, .int .i64 0, .slice none 0 0, .slice none 0 0, .slice none 0 0] := Blk.keep (W := (w11.alloc (.cells #[.slice none 0 0, .int .i64 0] 26)).alloc (.cells #[.int .i64 0, .int .i64 0, .int .i64 0, .slice none 0 0, .slice none 0 0, .slice none 0 0] 30)) (Blk.newAt (by simp)) b13) | ((with_reducible (have kI : Blk w13 w11.heap.size 30 #[.int .i64 0, .int .i64 0, .int .i64 0, .slice none 0 0, .slice none 0 0, .slice none 0 0] := Blk.keep (W := (w11.alloc (.cells #[.int .i64 0, .int .i64 0, .int .i64 0, .slice none 0 0, .slice none 0 0, .slice none 0 0] 30)).alloc (.cells #[.slice none 0 0, .int .i64 0] 26)) (Blk.alloc (Blk.newAt rfl) _) b13)); have kT : Blk w13 (w11.heap.size + 1) 26 #[.slice none 0 0, .int .i64 0] := Blk.keep (W := (w11.alloc (.cells #[.int .i64 0, .int .i64 0, .int .i64 0, .slice none 0 0, .slice none 0 0, .slice none 0 0] 30)).alloc (.cells #[.slice none 0 0, .int .i64 0] 26)) (Blk.newAt (by simp)) b13) | skip); have hq13 := B13.size; have hr13 := bQ.size; have nU0a : ¬ w.heap.size = w13.heap.size := (by omega); have nU0b : ¬ w13.heap.size = w.heap.size := (by omega); have nU1a : ¬ w.heap.size + 1 = w13.heap.size := (by omega); have nU1b : ¬ w13.heap.size = w.heap.size + 1 := (by omega); have nV0a : ¬ w.heap.size = w13.heap.size + 1 := (by omega); have nV0b : ¬ w13.heap.size + 1 = w.heap.size := (by omega); have nV1a : ¬ w.heap.size + 1 = w13.heap.size + 1 := (by omega); have nV1b : ¬ w13.heap.size + 1 = w.heap.size + 1 := (by omega); (try (have ltT := kT.lt; have p0 := kT.cell 0; have p1 := kT.cell 1; (simp at p0 p1); have pf0 := kT.frozen 0; have pf1 := kT.frozen 1; have p2 := (kT.alloc (.cells #[.int .i64 0, .int .i64 0, .int .i64 0, .slice none 0 0, .slice none 0 0, .slice none 0 0] 30)).cell 0; have p3 := (kT.alloc (.cells #[.int .i64 0, .int .i64 0, .int .i64 0, .slice none 0 0, .slice none 0 0, .slice none 0 0] 30)).cell 1; (simp at p2 p3); have pf2 := (kT.alloc (.cells #[.int .i64 0, .int .i64 0, .int .i64 0, .slice none 0 0, .slice none 0 0, .slice none 0 0] 30)).frozen 0; have pf3 := (kT.alloc (.cells #[.int .i64 0, .int .i64 0, .int .i64 0, .slice none 0 0, .slice none 0 0, .slice none 0 0] 30)).frozen 1)); (try (have ltI := kI.lt; obtain ⟨o0, o1, o2, o3, o4, o5⟩ := kI.six; have of0 := kI.frozen 0; have of1 := kI.frozen 1; have of2 := kI.frozen 2; have of3 := kI.frozen 3; have of4 := kI.frozen 4; have of5 := kI.frozen 5; obtain ⟨q0, q1, q2, q3, q4, q5⟩ := (kI.alloc (.cells #[.slice none 0 0, .int .i64 0] 26)).six; have qf0 := (kI.alloc (.cells #[.slice none 0 0, .int .i64 0] 26)).frozen 0; have qf1 := (kI.alloc (.cells #[.slice none 0 0, .int .i64 0] 26)).frozen 1; have qf2 := (kI.alloc (.cells #[.slice none 0 0, .int .i64 0] 26)).frozen 2; have qf3 := (kI.alloc (.cells #[.slice none 0 0, .int .i64 0] 26)).frozen 3; have qf4 := (kI.alloc (.cells #[.slice none 0 0, .int .i64 0] 26)).frozen 4; have qf5 := (kI.alloc (.cells #[.slice none 0 0, .int .i64 0] 26)).frozen 5)); (try (have nn1 : ¬ W0.heap.size = w11.heap.size := (by omega); have nn2 : ¬ w11.heap.size = W0.heap.size := (by omega))); (try (have nn3 : ¬ W0.heap.size = w13.heap.size := (by omega); have nn4 : ¬ w13.heap.size = W0.heap.size := (by omega))); (try (have nn5 : ¬ w11.heap.size = w13.heap.size := (by omega); have nn6 : ¬ w13.heap.size = w11.heap.size := (by omega))))
      | fail)
    all_goals (go_wp2_with fail; go_meet; have hb := sb_mk (r' := ⟨D, b1, d1, b2, d2, b3, d3⟩) B0 HSZ.out (by simp <;> omega) q11 b11 (by simp <;> omega) bQ gC b13 B13 HZ.out.1 HZ.out.2 z2; first | with_reducible exact sir_mk hjn (si_f1 hb) | with_reducible exact sir_mk hjn (si_f2 hb) | with_reducible exact sir_mk hjn (si_f3 hb kT (free_mk (by omega) (by (try simp) <;> omega) (by (try simp) <;> omega))) | with_reducible exact sir_mk hjn (si_f4 hb kI (free_mk (by omega) (by (try simp) <;> omega) (by (try simp) <;> omega))) | with_reducible exact sir_mk hjn (si_f5 hb kT kI (free_mk (by omega) (by (try simp) <;> omega) (by (try simp) <;> omega)) (free_mk (by omega) (by (try simp) <;> omega) (by (try simp) <;> omega)) (by omega)) | fail)
  case rest =>
  obtain ⟨X, Y, g, js, b1, d1, b2, d2, b3, d3, BT, TT, lo, hi, rfl, rfl, hjn, si1⟩ := hcut
  obtain ⟨W1, hwc⟩ : ∃ W, W = wc := ⟨_, rfl⟩
  subst hwc
  have hz2' : Hid _ := hz2
  clear bR bD t0 t1 x0 x1 x2 x3 x4 x5 HT HI HZ z2 B0 HSZ nP0a nP0b nP1a nP1b nQ0a nQ0b nQ1a nQ1b hz2 hz2' hsm hsx hx
  have hmf : ∀ (fn : Fn) (first cap : Array Value) (w : World), (Instr.makeFunc fn first cap).run Try.prog w = .ok (.func fn first cap) w := fun _ _ _ _ => rfl
  have hcB := byNumber_any a n cap nx rs W1.drew hn (by omega) hwf (hr.keep si1.below.drew)
  have HSI : Hid _ := si1
  have t0 := si1.tb.cell 0
  have t1 := si1.tb.cell 1
  simp at t0 t1
  obtain ⟨x0, x1, x2, x3, x4, x5⟩ := si1.xb.six
  clear si1
  cases hp : firstAt (inos rs) D.ino with
  | some p =>
    have hpl := firstAt_in hp
    rw [hn] at hpl
    have HP : Hid _ := hp
    clear hp hn hr hwf
    have hp0 : (0 : Int) ≤ (p : Int) := by omega
    have hpn : (p : Int) < (n : Int) := by omega
    go_wp2_with fail
    go_region_held3 (fun W : World => W.cell? ⟨w.heap.size, 0, none⟩ = some (.slice a n cap) ∧ W.cell? ⟨w.heap.size, 1, none⟩ = some (.int .i64 nx) ∧ W.cell? ⟨w.heap.size + 1, 0, none⟩ = some (.int .i64 D.ino)) (go_keep) (first
      | (go_at_call 33; (with_reducible refine hcB.mono ?_); rintro e w2 ⟨cnt, Dm, rfl, hcnt, hM, hown, bB⟩; have bW : Below W1.heap.size W1 w2 := (Below.refl W1.heap.size W1).drew.trans bB; have si2 := HSI.out.keep bW; have y0 := si2.tb.cell 0; have y1 := si2.tb.cell 1; (simp at y0 y1); obtain ⟨y2, y3, y4, y5, y6, y7⟩ := si2.xb.six; have hlk : (Instr.lookup 59 (.map (some (W1.heap.size + 1))) (.int .i64 D.ino) true).run Try.prog w2 = .ok (.tuple #[.int .i64 (p : Int), .bool true]) w2 := look_some hown hM hwx HP.out)
      | fail)
    obtain ⟨jp, hjp⟩ : ∃ j, js[p]? = some j := ⟨_, List.getElem?_eq_getElem (by omega)⟩
    have ow := si2.q.own hjn
    obtain ⟨u0, u1, u2, u3, u4, u5⟩ := ow.six p jp.r (by simp [hjp])
    have f0 := ow.frozen (p * 6)
    have f1 := ow.frozen (p * 6 + 1)
    have f2 := ow.frozen (p * 6 + 2)
    have f3 := ow.frozen (p * 6 + 3)
    have f4 := ow.frozen (p * 6 + 4)
    have f5 := ow.frozen (p * 6 + 5)
    have o0 := si2.out.cell 0
    have o1 := si2.out.cell 1
    have r0 := si2.res.cell 0
    have r1 := si2.res.cell 1
    have g0 := si2.res.frozen 0
    have g1 := si2.res.frozen 1
    simp at o0 o1 r0 r1
    obtain ⟨v0, v1, v2, v3, v4, v5⟩ := si2.own.six
    have hgT := si2.apT.2 g rfl
    have hgB := (World.ownsRow.lt si2.q.row g rfl).1
    have hord := si2.ord
    have hX := si2.hX
    have hY := si2.hY
    have n1 : ¬ g = X := by omega
    have n2 : ¬ X = g := by omega
    have n5 : ¬ g = w.heap.size + 2 := by omega
    have n6 : ¬ w.heap.size + 2 = g := by omega
    have n7 : ¬ g = Y := by omega
    have n8 : ¬ Y = g := by omega
    have HS2 : Hid _ := si2
    clear si2 ow HSI y0 y1 y2 y3 y4 y5 y6 y7 hlk hM hown hcB bB bW
    go_wp2
    have qp := HS2.out.q.put hjn ⟨D, a1, c1, a2, c2, a3, c3⟩ ⟨D, b1, d1, b2, d2, b3, d3⟩ rfl HS2.out.G ⟨by omega, by omega, by omega⟩ (fun i j e => .inl (by have := HS2.out.apT.1 i j e; omega)) (.inl (by omega)) p hpl
    have kb : Below w.heap.size w _ := HS2.out.below.grown (gr_more (gr_more (gr_more (gr_more (gr_more (gr_setC w2 g (p * 6) (.int .i64 D.ino)) (p * 6 + 1) (.int .i64 D.kind)) (p * 6 + 2) (.int .i64 D.links)) (p * 6 + 3) (.slice b1 D.data.length d1)) (p * 6 + 4) (.slice b2 D.ents.length d2)) (p * 6 + 5) (.slice b3 D.attrs.length d3)) HS2.out.below.size (fun m hm => by simp at hm; omega)
    have kr := HS2.out.res.kept (gr_more (gr_more (gr_more (gr_more (gr_more (gr_setC w2 g (p * 6) (.int .i64 D.ino)) (p * 6 + 1) (.int .i64 D.kind)) (p * 6 + 2) (.int .i64 D.links)) (p * 6 + 3) (.slice b1 D.data.length d1)) (p * 6 + 4) (.slice b2 D.ents.length d2)) (p * 6 + 5) (.slice b3 D.attrs.length d3)) (by omega)
    dsimp only at qp
    generalize (((((w2.setCell ⟨g, p * 6, none⟩ (.int .i64 D.ino)).setCell ⟨g, p * 6 + 1, none⟩ (.int .i64 D.kind)).setCell ⟨g, p * 6 + 2, none⟩ (.int .i64 D.links)).setCell ⟨g, p * 6 + 3, none⟩ (.slice b1 D.data.length d1)).setCell ⟨g, p * 6 + 4, none⟩ (.slice b2 D.ents.length d2)).setCell ⟨g, p * 6 + 5, none⟩ (.slice b3 D.attrs.length d3) = W5 at qp kb kr ⊢
    have zf := (kr.set 0 (.slice (some ⟨g, 0, none⟩) n n)).set 1 (.int .i64 nx)
    have dd0 := zf.cell 0
    have dd1 := zf.cell 1
    simp at dd0 dd1
    refine bodyPost_ret (v := .agg #[.slice (some ⟨g, 0, none⟩) n n, .int .i64 nx]) (by simp [results, Try.f9, go_sem, dd0, dd1]) rfl ?_
    rw [setR_some (r := ⟨D, a1, c1, a2, c2, a3, c3⟩) HP.out]
    have hl : (js.set p ⟨⟨D, b1, d1, b2, d2, b3, d3⟩, lo, hi⟩).length = n := by rw [List.length_set, hjn]
    refine ⟨some ⟨g, 0, none⟩, n, js.set p ⟨⟨D, b1, d1, b2, d2, b3, d3⟩, lo, hi⟩, by rw [hl], ?_, ?_⟩
    · rw [hl]
      have qB := qp.setX (X := w.heap.size + 1 + 1) (by omega) 0 (.slice (some ⟨g, 0, none⟩) n n)
      have qC := qB.setX (X := w.heap.size + 1 + 1) (by omega) 1 (.int .i64 nx)
      exact qC.lower (by omega)
    · exact (kb.setCell (p := ⟨w.heap.size + 2, 0, none⟩) (by simp only; omega) _).setCell (p := ⟨w.heap.size + 2, 1, none⟩) (by simp only; omega) _
  | none =>
    have HP : Hid _ := hp
    have HI : Hid (∀ W : World, Below w.heap.size w W → W.cell? ⟨w.heap.size + 1, 0, none⟩ = some (.int .i64 D.ino) → Calls Try.prog 34 #[.slice a n cap, .func (.func 35) #[] #[.pointer (some ⟨w.heap.size + 1, 0, none⟩)]] W fun e w' => e = .returned (.int .i64 (idxN rs D.ino)) ∧ Below W.heap.size W w') := fun W hb hc => indexFunc_any a n cap rs D.ino (w.heap.size + 1) W hn (by omega) (hr.keep hb) hc
    have hPle := placeOf_le rs D.ino
    rw [hn] at hPle
    have hidx : idxN rs D.ino = if placeOf rs D.ino < n then ((placeOf rs D.ino : Nat) : Int) else -1 := by unfold idxN; rw [hn]
    have HSR : Hid (setR rs ⟨D, a1, c1, a2, c2, a3, c3⟩ = putAt rs ⟨D, a1, c1, a2, c2, a3, c3⟩ (placeOf rs D.ino)) := setR_none (r := ⟨D, a1, c1, a2, c2, a3, c3⟩) hp
    generalize placeOf rs D.ino = P at hPle hidx HSR
    rw [hidx] at HI
    clear hp hn hr hwf hidx
    go_wp2_with fail
    go_region_held3 (fun W : World => W.cell? ⟨w.heap.size, 0, none⟩ = some (.slice a n cap) ∧ W.cell? ⟨w.heap.size, 1, none⟩ = some (.int .i64 nx) ∧ W.cell? ⟨w.heap.size + 1, 0, none⟩ = some (.int .i64 D.ino)) (go_keep) (first
      | (go_at_call 33; (with_reducible refine hcB.mono ?_); rintro e w2 ⟨cnt, Dm, rfl, hcnt, hM, hown, bB⟩; have bW : Below W1.heap.size W1 w2 := (Below.refl W1.heap.size W1).drew.trans bB; have si2 := HSI.out.keep bW; have y0 := si2.tb.cell 0; have y1 := si2.tb.cell 1; (simp at y0 y1); obtain ⟨y2, y3, y4, y5, y6, y7⟩ := si2.xb.six; obtain ⟨cc, hlk⟩ : ∃ c : Int, (Instr.lookup 59 (.map (some (W1.heap.size + 1))) (.int .i64 D.ino) true).run Try.prog w2 = .ok (.tuple #[.int .i64 c, .bool false]) w2 := look_none hown hM hwx HP.out)
      | fail)
    have HS2 : Hid _ := si2
    have hcI := HI.out w2 si2.below y2
    clear si2 hM hown hcB bB bW HSI t0 t1 x0 x1 x2 x3 x4 x5 hlk
    by_cases hPn : P < n
    · rw [if_pos hPn] at hcI
      go_upto_region 9 with (first | (go_at_call 34; (with_reducible refine hcI.mono ?_); rintro e w3 ⟨rfl, b3'⟩; have si3 := HS2.out.keep b3'; have y0 := si3.tb.cell 0; (simp at y0)) | fail)
      clear HS2 hcI
      have hord := si3.ord
      have hX := si3.hX
      have hY := si3.hY
      have hXl := si3.out.lt
      have hrow := World.ownsRow.alloc si3.q.row (.cells #[.int .i64 D.ino, .int .i64 D.kind, .int .i64 D.links, .slice b1 D.data.length d1, .slice b2 D.ents.length d2, .slice b3 D.attrs.length d3] 30)
      rw [hjn] at hrow
      have hcS := insert_any BT g n w3.heap.size P (iv (js.map InoJ.r)) (InoR.six ⟨D, b1, d1, b2, d2, b3, d3⟩) (w3.alloc (.cells #[.int .i64 D.ino, .int .i64 D.kind, .int .i64 D.links, .slice b1 D.data.length d1, .slice b2 D.ents.length d2, .slice b3 D.attrs.length d3] 30)) (by omega) hs (by simp; omega) hrow (fun j u hj => by have := six_news w3 ⟨D, b1, d1, b2, d2, b3, d3⟩ 30 j u hj; rw [Addr.add_lit, Nat.zero_add] at this; exact this) rfl (iv_one _) (six_one _) (by simp)
      have si3' := si3.keep ((Below.refl w3.heap.size w3).alloc (Nat.le_refl _) (.cells #[.int .i64 D.ino, .int .i64 D.kind, .int .i64 D.links, .slice b1 D.data.length d1, .slice b2 D.ents.length d2, .slice b3 D.attrs.length d3] 30))
      have o0 := si3.out.cell 0
      simp at o0
      obtain ⟨v0, v1, v2, v3, v4, v5⟩ := si3.own.six
      have hGsz : (w3.alloc (.cells #[.int .i64 D.ino, .int .i64 D.kind, .int .i64 D.links, .slice b1 D.data.length d1, .slice b2 D.ents.length d2, .slice b3 D.attrs.length d3] 30)).heap.size = w3.heap.size + 1 := by simp
      have HGS : Hid _ := hGsz
      clear si3 hGsz hrow
      go_wp2_with (first | (go_at_call 36; (with_reducible refine hcS.mono ?_); rintro e w4 ⟨c6, rfl, o6, b6⟩; have si4 := si3'.keep b6; rw [HGS.out] at o6 ⊢; have m0 := si4.out.cell 0; have m1 := si4.out.cell 1; have mf := si4.out.frozen 0; have r0 := si4.res.cell 0; have r1 := si4.res.cell 1; have f0 := si4.res.frozen 0; have f1 := si4.res.frozen 1; (simp at m0 m1 r0 r1); have ne1 : ¬ w.heap.size + 2 = X := (by omega); have ne2 : ¬ X = w.heap.size + 2 := (by omega); have HG : Hid _ := si4; clear si4 si3') | fail)
      have hs4 := b6.size
      rw [HGS.out] at hs4
      have hw4 := (World.ownsRow.lt o6 (w3.heap.size + 1) rfl).2
      have e6 : (iv (js.map InoJ.r)).take (P * 6) = iv ((js.take P).map InoJ.r) := by rw [List.map_take, iv_take]
      have e7 : (iv (js.map InoJ.r)).drop (P * 6) = iv ((js.drop P).map InoJ.r) := by rw [List.map_drop, iv_drop]
      rw [e6, e7] at o6
      have q6 := HG.out.q.ins hjn hPle ⟨D, a1, c1, a2, c2, a3, c3⟩ ⟨D, b1, d1, b2, d2, b3, d3⟩ rfl (Nat.le_refl _) o6 (fun _ _ _ _ _ _ => rfl) HG.out.G ⟨by omega, by omega, HG.out.ord.2.2.2.2⟩ (fun i j e => .inl (by have := HG.out.apT.1 i j e; omega)) (.inr (by omega)) (fun i j e => .inr (by have := HG.out.apT.1 i j e; omega))
      have hjs : ∀ (i : Nat) (j : InoJ), (js.take P ++ ⟨⟨D, b1, d1, b2, d2, b3, d3⟩, lo, hi⟩ :: js.drop P)[i]? = some j → X < j.lo ∨ j.hi ≤ X := by
        have hold : ∀ (i : Nat) (j : InoJ), js[i]? = some j → X < j.lo ∨ j.hi ≤ X := fun i j e => by
          have := HG.out.apT.1 i j e
          have := HG.out.q.lo i j e
          omega
        intro i j e
        rcases List.mem_append.1 (List.mem_of_getElem? e) with h | h
        · obtain ⟨i0, e0⟩ := List.getElem?_of_mem (List.mem_of_mem_take h)
          exact hold i0 j e0
        · rcases List.mem_cons.1 h with rfl | h
          · exact hX.2.2
          · obtain ⟨i0, e0⟩ := List.getElem?_of_mem (List.mem_of_mem_drop h)
            exact hold i0 j e0
      have hvX : ∀ m, (Value.slice (some ⟨w3.heap.size + 1, 0, none⟩) (n + 1) c6).ownBlock = some m → m ≠ X := fun m hm => by simp [Value.ownBlock] at hm; omega
      have zf := (((HG.out.res.other (show w.heap.size + 2 ≠ X by omega) 0 (.slice (some ⟨w3.heap.size + 1, 0, none⟩) (n + 1) c6))).set 0 (.slice (some ⟨w3.heap.size + 1, 0, none⟩) (n + 1) c6)).set 1 (.int .i64 nx)
      have dd0 := zf.cell 0
      have dd1 := zf.cell 1
      simp at dd0 dd1
      refine bodyPost_ret (v := .agg #[.slice (some ⟨w3.heap.size + 1, 0, none⟩) (n + 1) c6, .int .i64 nx]) (by simp [results, Try.f9, go_sem, dd0, dd1]) rfl ?_
      rw [HSR.out]
      have hl : (js.take P ++ ⟨⟨D, b1, d1, b2, d2, b3, d3⟩, lo, hi⟩ :: js.drop P).length = n + 1 := by simp; omega
      refine ⟨some ⟨w3.heap.size + 1, 0, none⟩, c6, js.take P ++ ⟨⟨D, b1, d1, b2, d2, b3, d3⟩, lo, hi⟩ :: js.drop P, by rw [hl], ?_, ?_⟩
      · rw [hl]
        have qA := q6.setY (X := X) hvX hjs 0 (.slice (some ⟨w3.heap.size + 1, 0, none⟩) (n + 1) c6)
        have qB := qA.setX (X := w.heap.size + 1 + 1) (by omega) 0 (.slice (some ⟨w3.heap.size + 1, 0, none⟩) (n + 1) c6)
        have qC := qB.setX (X := w.heap.size + 1 + 1) (by omega) 1 (.int .i64 nx)
        exact qC.lower (by omega)
      · exact ((HG.out.below.setCell (p := ⟨X, 0, none⟩) (by simp only; omega) _).setCell (p := ⟨w.heap.size + 2, 0, none⟩) (by simp only; omega) _).setCell (p := ⟨w.heap.size + 2, 1, none⟩) (by simp only; omega) _
    · rw [if_neg hPn] at hcI
      obtain rfl : P = n := by omega
      go_upto_region 9 with (first | (go_at_call 34; (with_reducible refine hcI.mono ?_); rintro e w3 ⟨rfl, b3'⟩; have si3 := HS2.out.keep b3'; have y0 := si3.tb.cell 0; (simp at y0)) | fail)
      clear HS2 hcI
      have hord := si3.ord
      have hX := si3.hX
      have hY := si3.hY
      have hXl := si3.out.lt
      have hrow := World.ownsRow.alloc si3.q.row (.cells #[.int .i64 D.ino, .int .i64 D.kind, .int .i64 D.links, .slice b1 D.data.length d1, .slice b2 D.ents.length d2, .slice b3 D.attrs.length d3] 30)
      rw [hjn] at hrow
      have hcS := insert_any BT g P w3.heap.size P (iv (js.map InoJ.r)) (InoR.six ⟨D, b1, d1, b2, d2, b3, d3⟩) (w3.alloc (.cells #[.int .i64 D.ino, .int .i64 D.kind, .int .i64 D.links, .slice b1 D.data.length d1, .slice b2 D.ents.length d2, .slice b3 D.attrs.length d3] 30)) (by omega) hs (by simp; omega) hrow (fun j u hj => by have := six_news w3 ⟨D, b1, d1, b2, d2, b3, d3⟩ 30 j u hj; rw [Addr.add_lit, Nat.zero_add] at this; exact this) rfl (iv_one _) (six_one _) (by simp)
      have si3' := si3.keep ((Below.refl w3.heap.size w3).alloc (Nat.le_refl _) (.cells #[.int .i64 D.ino, .int .i64 D.kind, .int .i64 D.links, .slice b1 D.data.length d1, .slice b2 D.ents.length d2, .slice b3 D.attrs.length d3] 30))
      have o0 := si3.out.cell 0
      simp at o0
      obtain ⟨v0, v1, v2, v3, v4, v5⟩ := si3.own.six
      have hGsz : (w3.alloc (.cells #[.int .i64 D.ino, .int .i64 D.kind, .int .i64 D.links, .slice b1 D.data.length d1, .slice b2 D.ents.length d2, .slice b3 D.attrs.length d3] 30)).heap.size = w3.heap.size + 1 := by simp
      have HGS : Hid _ := hGsz
      clear si3 hGsz hrow
      go_wp2_with (first | (go_at_call 36; (with_reducible refine hcS.mono ?_); rintro e w4 ⟨c6, rfl, o6, b6⟩; have si4 := si3'.keep b6; rw [HGS.out] at o6 ⊢; have m0 := si4.out.cell 0; have m1 := si4.out.cell 1; have mf := si4.out.frozen 0; have r0 := si4.res.cell 0; have r1 := si4.res.cell 1; have f0 := si4.res.frozen 0; have f1 := si4.res.frozen 1; (simp at m0 m1 r0 r1); have ne1 : ¬ w.heap.size + 2 = X := (by omega); have ne2 : ¬ X = w.heap.size + 2 := (by omega); have HG : Hid _ := si4; clear si4 si3') | fail)
      have hs4 := b6.size
      rw [HGS.out] at hs4
      have hw4 := (World.ownsRow.lt o6 (w3.heap.size + 1) rfl).2
      have e6 : (iv (js.map InoJ.r)).take (P * 6) = iv ((js.take P).map InoJ.r) := by rw [List.map_take, iv_take]
      have e7 : (iv (js.map InoJ.r)).drop (P * 6) = iv ((js.drop P).map InoJ.r) := by rw [List.map_drop, iv_drop]
      rw [e6, e7] at o6
      have q6 := HG.out.q.ins hjn hPle ⟨D, a1, c1, a2, c2, a3, c3⟩ ⟨D, b1, d1, b2, d2, b3, d3⟩ rfl (Nat.le_refl _) o6 (fun _ _ _ _ _ _ => rfl) HG.out.G ⟨by omega, by omega, HG.out.ord.2.2.2.2⟩ (fun i j e => .inl (by have := HG.out.apT.1 i j e; omega)) (.inr (by omega)) (fun i j e => .inr (by have := HG.out.apT.1 i j e; omega))
      have hjs : ∀ (i : Nat) (j : InoJ), (js.take P ++ ⟨⟨D, b1, d1, b2, d2, b3, d3⟩, lo, hi⟩ :: js.drop P)[i]? = some j → X < j.lo ∨ j.hi ≤ X := by
        have hold : ∀ (i : Nat) (j : InoJ), js[i]? = some j → X < j.lo ∨ j.hi ≤ X := fun i j e => by
          have := HG.out.apT.1 i j e
          have := HG.out.q.lo i j e
          omega
        intro i j e
        rcases List.mem_append.1 (List.mem_of_getElem? e) with h | h
        · obtain ⟨i0, e0⟩ := List.getElem?_of_mem (List.mem_of_mem_take h)
          exact hold i0 j e0
        · rcases List.mem_cons.1 h with rfl | h
          · exact hX.2.2
          · obtain ⟨i0, e0⟩ := List.getElem?_of_mem (List.mem_of_mem_drop h)
            exact hold i0 j e0
      have hvX : ∀ m, (Value.slice (some ⟨w3.heap.size + 1, 0, none⟩) (P + 1) c6).ownBlock = some m → m ≠ X := fun m hm => by simp [Value.ownBlock] at hm; omega
      have zf := (((HG.out.res.other (show w.heap.size + 2 ≠ X by omega) 0 (.slice (some ⟨w3.heap.size + 1, 0, none⟩) (P + 1) c6))).set 0 (.slice (some ⟨w3.heap.size + 1, 0, none⟩) (P + 1) c6)).set 1 (.int .i64 nx)
      have dd0 := zf.cell 0
      have dd1 := zf.cell 1
      simp at dd0 dd1
      refine bodyPost_ret (v := .agg #[.slice (some ⟨w3.heap.size + 1, 0, none⟩) (P + 1) c6, .int .i64 nx]) (by simp [results, Try.f9, go_sem, dd0, dd1]) rfl ?_
      rw [HSR.out]
      have hl : (js.take P ++ ⟨⟨D, b1, d1, b2, d2, b3, d3⟩, lo, hi⟩ :: js.drop P).length = P + 1 := by simp; omega
      refine ⟨some ⟨w3.heap.size + 1, 0, none⟩, c6, js.take P ++ ⟨⟨D, b1, d1, b2, d2, b3, d3⟩, lo, hi⟩ :: js.drop P, by rw [hl], ?_, ?_⟩
      · rw [hl]
        have qA := q6.setY (X := X) hvX hjs 0 (.slice (some ⟨w3.heap.size + 1, 0, none⟩) (P + 1) c6)
        have qB := qA.setX (X := w.heap.size + 1 + 1) (by omega) 0 (.slice (some ⟨w3.heap.size + 1, 0, none⟩) (P + 1) c6)
        have qC := qB.setX (X := w.heap.size + 1 + 1) (by omega) 1 (.int .i64 nx)
        exact qC.lower (by omega)
      · exact ((HG.out.below.setCell (p := ⟨X, 0, none⟩) (by simp only; omega) _).setCell (p := ⟨w.heap.size + 2, 0, none⟩) (by simp only; omega) _).setCell (p := ⟨w.heap.size + 2, 1, none⟩) (by simp only; omega) _
end
end Go.Proofs.Ytgcmpimckpnemaa
