/-
  Joined: AppZ, SizedI, Insert, IdxF.
-/
import Derived.Test.YtbjfihabkpianaaGreatDoorJ07E
import Derived.Lib.AppendZerosOnto
import Derived.Laws.CopyRow
namespace Go.Proofs.YtbjfihabkpianaaGreatDoor
section
open Go.RowKit
theorem run_append_room_zeros {P : Program} (w : World) (t tn ty e : TypeId) (i : TypeInfo) (z : Value) (kq kn : IntKind) (ht : P.underlying t = some (.slice e)) (htn : P.underlying tn = some (.int kn)) (hi : P.info? e = some i) (hz : i.zero = some z)
    (g sLen sCap : Nat) (cur : Array Value) (hg : w.heap[g]? = some (.cells cur e (0, 0))) (k : Nat) (h0 : 0 < k) (hs : 0 < i.size) (hroom : sLen + k ≤ sCap) (h63 : ((k : Nat) : Int) ≤ 9223372036854775807) (h48 : k * i.bytes ≤ 281474976710656)
    (h1 : ∀ u ∈ (Builtin.zeroCells z.cells k).toList, u.oneCell' = true) (hfit : sLen * i.size + (Builtin.zeroCells z.cells k).toList.length ≤ cur.size) :
    (Builtin.append_ #[t, tn] ty #[.slice (some ⟨g, 0, none⟩) sLen sCap, .int kq k]).run P w =
      .ok (.slice (some ⟨g, 0, none⟩) (sLen + k) sCap) (w.setRow g (cur.toList.take (sLen * i.size) ++ (Builtin.zeroCells z.cells k).toList ++ cur.toList.drop (sLen * i.size + (Builtin.zeroCells z.cells k).toList.length)).toArray) := by
  have hst := run_storeCells_at P g (sLen * i.size) e (Builtin.zeroCells z.cells k).toList 0 cur w hg (by simpa using hfit) h1
  simp only [Nat.add_zero] at hst
  have hk : k ≠ 0 := by omega
  have hw : IntKind.i64.wrap (k : Int) = k := by rw [IntKind.wrap_i64]; omega
  have h48i : ¬ (281474976710656 < (k : Int) * (i.bytes : Int)) := by
    rw [← Int.natCast_mul]
    omega
  have hneg : ¬ ((k : Int) < 0) := by omega
  have hns : ¬ (k * i.size = 0) := Nat.mul_ne_zero hk (by omega)
  obtain ⟨R, hR⟩ : ∃ R, (w.setRow g (cur.toList.take (sLen * i.size) ++ (Builtin.zeroCells z.cells k).toList ++ cur.toList.drop (sLen * i.size + (Builtin.zeroCells z.cells k).toList.length)).toArray) = R := ⟨_, rfl⟩
  rw [hR] at hst ⊢
  simp [Builtin.append_, run_underlying ht, run_underlying htn, sizeOf, typeInfo, zeroValue, hi, hz, asInt, asIntOf, hw, hneg, hns, h48i, hroom, Addr.add_lit, hst]
theorem zc_bytes (k : Nat) : (Builtin.zeroCells (Value.int .u8 0).cells k).toList = (List.replicate k (0 : Int)).map (Value.int .u8) := by
  induction k with
  | zero => simp [Builtin.zeroCells]
  | succ k ih =>
    have e : Builtin.zeroCells (Value.int .u8 0).cells (k + 1) = (Builtin.zeroCells (Value.int .u8 0).cells k).push (.int .u8 0) := by
      apply Array.ext
      · simp [Builtin.zeroCells, Value.cells]
      · intro i h1 h2
        simp [Builtin.zeroCells, Value.cells, Array.getElem_push, Nat.mod_one]
    rw [e, Array.toList_push, ih, List.replicate_succ', List.map_append]
    rfl
theorem grown_setRow (w : World) (g : Nat) (cs : Array Value) : w.grownBy (w.setRow g cs) (some g) := by
  refine ⟨rfl, rfl, rfl, ?_, fun k hk hne => ?_⟩
  · simp [World.setRow]
  · have : g ≠ k := fun e => hne (by rw [e])
    simp [World.setRow, Array.getElem?_modify, this]
/-- k noughts appended to bytes of one's own. -/
theorem zeros_any (B : Nat) (v : Value) (n k : Nat) (zs : List Int) (w : World) (h : OwnV B w v n zs) (hk : 0 < k) (hs : n + k ≤ 1000000) (hB : B ≤ w.heap.size) :
    ∃ v' w', (∀ ty, (Builtin.append_ #[42, 3] ty #[v, .int .i64 (k : Int)]).run Tryz.prog w = .ok v' w') ∧ OwnV B w' v' (n + k) (zs ++ List.replicate k 0) ∧ w.grownBy w' v.ownBlock := by
  obtain ⟨i, hi, z0, z1, z2⟩ := info_parts Tryz.info5
  have hlz : (zs.map (Value.int .u8)).length = n := by rw [List.length_map]; exact h.len
  have hzl : (Builtin.zeroCells (Value.int .u8 0).cells k).toList.length = k := by rw [zc_bytes]; simp
  have hone : ∀ u ∈ (Builtin.zeroCells (Value.int .u8 0).cells k).toList, u.oneCell' = true := by
    rw [zc_bytes]
    intro u hu
    obtain ⟨x, _, rfl⟩ := List.mem_map.1 hu
    rfl
  have hgrow : ∀ (base : Option Addr) (cap : Nat), cap < n + k → (Builtin.firstCells i.size n (.slice base n cap)).run Tryz.prog w.drew = .ok (zs.map (Value.int .u8)).toArray w.drew → ∃ v' w', (∀ ty, (Builtin.append_ #[42, 3] ty #[.slice base n cap, .int .i64 (k : Int)]).run Tryz.prog w = .ok v' w') ∧ OwnV B w' v' (n + k) (zs ++ List.replicate k 0) ∧ w.grownBy w' (Value.slice base n cap).ownBlock := by
    intro base cap hcap hold
    have hG := grownCap_ge w (n + k) cap 5
    have hG2 := grownCap_le_maxLen w (n + k) cap 5 (by unfold maxLen; omega)
    have hr := fun ty => Lib.run_append_grow_zeros (P := Tryz.prog) w 42 3 ty 5 i (.int .u8 0) .i64 .i64 Tryz.underlying42 Tryz.underlying3 hi z0 base n cap (zs.map (Value.int .u8)) hold k hk (by omega) hcap (by omega) (by rw [z2]; omega) (by
      rw [z2]
      exact growslice_fits hcap (by omega))
    obtain ⟨G, hGG⟩ : ∃ G, grownCap w (n + k) cap 5 = G := ⟨_, rfl⟩
    rw [hGG] at hr hG hG2
    have hsz : ((zs.map (Value.int .u8)).toArray ++ Builtin.zeroCells (Value.int .u8 0).cells k ++ Builtin.zeroCells (Value.int .u8 0).cells (G - (n + k))).size = G * 1 := by
      rw [Array.size_append, Array.size_append, List.size_toArray, hlz, ← Array.length_toList, hzl, ← Array.length_toList, zc_bytes]
      simp
      omega
    have htk : (((zs.map (Value.int .u8)).toArray ++ Builtin.zeroCells (Value.int .u8 0).cells k ++ Builtin.zeroCells (Value.int .u8 0).cells (G - (n + k))).toList.take ((n + k) * 1)) = (zs ++ List.replicate k 0).map (Value.int .u8) := by
      rw [Array.toList_append, Array.toList_append, zc_bytes, zc_bytes, Nat.mul_one, List.take_append_of_le_length (by simp [h.len]), List.take_of_length_le (by simp [h.len]), List.map_append]
    refine ⟨_, _, hr, ⟨by simp [h.len], .inr ⟨w.heap.size, G, _, rfl, hB, ?_, hG, hG2, hsz, htk⟩⟩, ?_⟩
    · exact heap_alloc_new w.drew _
    · have bb : Below w.heap.size w (w.drew.alloc (.cells ((zs.map (Value.int .u8)).toArray ++ Builtin.zeroCells (Value.int .u8 0).cells k ++ Builtin.zeroCells (Value.int .u8 0).cells (G - (n + k))) 5)) := ((Below.refl w.heap.size w).drew).alloc (Nat.le_refl _) _
      exact ⟨bb.os, bb.tape, bb.output, bb.size, fun j hj _ => bb.block j hj⟩
  rcases h.2 with ⟨rfl, rfl⟩ | ⟨g, cap, cur, rfl, hg, hh, hnc, hcm, hcs, htk⟩
  · refine hgrow none 0 (by omega) ?_
    have hz0 : zs = [] := by have := h.len; exact List.length_eq_zero_iff.1 this
    rw [hz0]
    exact run_firstCells_none w.drew i.size 0 0 0
  · by_cases hroom : n + k ≤ cap
    · have hr := fun ty => run_append_room_zeros (P := Tryz.prog) w 42 3 ty 5 i (.int .u8 0) .i64 .i64 Tryz.underlying42 Tryz.underlying3 hi z0 g n cap cur hh k hk (by omega) hroom (by omega) (by rw [z2]; omega) hone (by rw [z1, hzl, hcs]; omega)
      rw [z1, zc_bytes, Nat.mul_one] at hr
      rw [Nat.mul_one] at htk hcs
      refine ⟨_, _, hr, ⟨by simp [h.len], .inr ⟨g, cap, _, rfl, hg, setRow_heap w g cur _ 5 _ hh, hroom, hcm, ?_, ?_⟩⟩, grown_setRow w g _⟩
      · have hl0 : cur.toList.length = cap := by simpa using hcs
        simp only [List.size_toArray, List.length_append, List.length_take, List.length_map, List.length_replicate, List.length_drop, hl0]
        omega
      · have hl0 : cur.toList.length = cap := by simpa using hcs
        rw [htk, Nat.mul_one, List.append_assoc, ← List.append_assoc, ← List.map_append, List.take_append_of_le_length (by simp [h.len]), List.take_of_length_le (by simp [h.len])]
    · refine hgrow (some ⟨g, 0, none⟩) cap (by omega) (run_firstCells_some w.drew i.size n ⟨g, 0, none⟩ n cap _ (by rw [hlz, z1]; omega) (fun j u hj => ?_))
      rw [Addr.add_lit, Nat.zero_add]
      have hjn : j < n := by
        have := (List.getElem?_eq_some_iff.1 hj).1
        rw [hlz] at this
        exact this
      have := World.ownsRow.cellAt h j (by omega)
      rw [hj] at this
      exact this
end

section
open Go.RowKit
def sizeTo (d : List Int) (k : Nat) : List Int := (d ++ List.replicate (k - d.length) 0).take k
theorem sizeTo_le {d : List Int} {k : Nat} (h : k ≤ d.length) : sizeTo d k = d.take k := by
  unfold sizeTo
  rw [List.take_append_of_le_length h]
theorem sizeTo_gt {d : List Int} {k : Nat} (h : d.length ≤ k) : sizeTo d k = d ++ List.replicate (k - d.length) 0 := by
  unfold sizeTo
  exact List.take_of_length_le (by simp; omega)
theorem own_take {B : Nat} {w : World} {g cap n m : Nat} {zs : List Int} (h : OwnV B w (.slice (some ⟨g, 0, none⟩) n cap) n zs) (hm : m ≤ n) : OwnV B w (.slice (some ⟨g, 0, none⟩) m cap) m (zs.take m) := by
  have hl := h.len
  refine ⟨by simp; omega, ?_⟩
  rcases h.2 with ⟨hv, _⟩ | ⟨g', cap', cur, hv, hg, hh, hnc, hcm, hcs, htk⟩
  · simp at hv
  · simp only [Value.slice.injEq, Option.some.injEq, Addr.mk.injEq, and_true, true_and] at hv
    obtain ⟨rfl, rfl⟩ := hv
    refine .inr ⟨g, cap, cur, rfl, hg, hh, by omega, hcm, hcs, ?_⟩
    rw [Nat.mul_one] at htk ⊢
    have e := congrArg (List.take m) htk
    rw [List.take_take, Nat.min_eq_left hm] at e
    rw [e, List.map_take]
theorem wpList_zeros (W : World) {ops : Array Oper} {rest : List Oper} {o : Oper} {a : Act} {Q : Exit → Act → World → Prop} (hgd : o.guard = none) (s x : Operand)
    (ho : o.op = .call { callee := .builtin .append, args := #[s, x], argTypes := #[42, 3] }) (v u v' : Value) (W' : World) (hs : a.eval s = v) (hx : a.eval x = u) (hr : ∀ ty, (Builtin.append_ #[42, 3] ty #[v, u]).run Tryz.prog W = .ok v' W')
    (h : wpList Tryz.prog ops Q rest (a.put o.dst v') W') : wpList Tryz.prog ops Q (o :: rest) a W := by
  refine wpList_plain hgd fun K hK => ?_
  unfold Oper.wp execOp
  simp only [ho, resolve, invoke, builtin, Sem.run_bind, Sem.run_pure, Result.andThen_ok, List.map_toArray, List.map_cons, List.map_nil, hs, hx, hr]
  exact hK _ _ h
set_option maxRecDepth 100000 in
set_option maxHeartbeats 1000000 in
theorem sizedI (B : Nat) (v : Value) (n m : Nat) (zs : List Int) (w : World) (h : OwnV B w v n zs) (hs : n ≤ 100000) (hm : m ≤ 100000) (hB : B ≤ w.heap.size) :
    Calls Tryz.prog 206 #[v, .int .i64 m] w fun e w' => ∃ v', e = .returned v' ∧ OwnV B w' v' m (sizeTo zs m) ∧ w.grownBy w' v.ownBlock := by
  have hl := h.len
  have hgr : w.grownBy w v.ownBlock := ⟨rfl, rfl, rfl, Nat.le_refl _, fun _ _ _ => rfl⟩
  by_cases hmn : m ≤ n
  · have hmi : (m : Int) ≤ (n : Int) := by omega
    rw [sizeTo_le (by omega)]
    rcases h.2 with ⟨rfl, rfl⟩ | ⟨g, cap, cur, rfl, hg, hh, hnc, hcm, _⟩
    · obtain rfl : m = 0 := by omega
      obtain rfl : zs = [] := List.length_eq_zero_iff.1 hl
      have HE : Hid _ := And.intro h hgr
      clear hl hmn hmi h hgr
      go_enter Tryz.func206, Tryz.ntmps206
      go_wp2
      go_ret
      exact ⟨_, rfl, HE.out.1, HE.out.2⟩
    · have HE : Hid _ := And.intro (own_take h hmn) hgr
      have hmc : (m : Int) ≤ (cap : Int) := by omega
      have hm0 : (0 : Int) ≤ (m : Int) := by omega
      clear hl h hgr hh
      go_enter Tryz.func206, Tryz.ntmps206
      go_wp2
      go_ret
      exact ⟨_, rfl, HE.out.1, HE.out.2⟩
  · have hmi : ¬ (m : Int) ≤ (n : Int) := by omega
    obtain ⟨v', w', hr, ho, hg⟩ := zeros_any B v n (m - n) zs w h (by omega) (by omega) hB
    rw [show n + (m - n) = m by omega, show m - n = m - zs.length by omega, ← sizeTo_gt (by omega)] at ho
    rw [show ((m - n : Nat) : Int) = (m : Int) - (n : Int) by omega] at hr
    obtain ⟨a, c, rfl⟩ : ∃ a c, v = .slice a n c := by
      rcases h.2 with ⟨rfl, rfl⟩ | ⟨g, c, cur, rfl, _⟩
      · exact ⟨none, 0, rfl⟩
      · exact ⟨_, _, rfl⟩
    have HE : Hid _ := And.intro ho hg
    clear ho hg h hl hgr
    go_enter Tryz.func206, Tryz.ntmps206
    go_wp2_with (first
      | (at_builtin; refine wpList_zeros w rfl (.tmp 12) (.tmp 16) rfl (.slice a n c) (.int .i64 ((m : Int) - (n : Int))) v' w' rfl rfl hr ?_)
      | go_in)
    go_ret
    exact ⟨_, rfl, HE.out.1, HE.out.2⟩
end

section
open Go.RowKit
theorem run_copy6 (w : World) (ty : TypeId) (g o dLen dCap : Nat) (a : Addr) (sLen sCap : Nat) (cur : Array Value) (t : TypeId) (cs : List Value) (m : Nat)
    (hg : w.heap[g]? = some (.cells cur t (0, 0))) (hm : Nat.min sLen dLen = m) (hn : cs.length = m * 6)
    (hsrc : ∀ j v, cs[j]? = some v → w.cell? (a.add j) = some v) (hfit : o + cs.length ≤ cur.size) (h1 : ∀ v ∈ cs, v.oneCell' = true) :
    (Builtin.copy_ #[45, 45] ty #[.slice (some ⟨g, o, none⟩) dLen dCap, .slice (some a) sLen sCap]).run Tryz.prog w =
      .ok (goInt m) (w.setRow g (cur.toList.take o ++ cs ++ cur.toList.drop (o + cs.length)).toArray) := by
  obtain ⟨ii, hii, zi0, zi1, zi2⟩ := info_parts Tryz.infoInode
  have hl := run_loadCells_list (P := Tryz.prog) w a cs hsrc
  have hst := run_storeCells_at Tryz.prog g o t cs 0 cur w hg (by simpa using hfit) h1
  rw [hn] at hl
  simp [Builtin.copy_, run_underlying Tryz.underlying45, Builtin.lenOf, Builtin.firstCells, sizeOf, typeInfo, hii, zi1, hm, hl, hst]
theorem wpList_copy_run (w : World) {ops : Array Oper} {rest : List Oper} {o : Oper} {a : Act} {Q : Exit → Act → World → Prop} (hgd : o.guard = none) (d s : Operand) (t t' : TypeId)
    (ho : o.op = .call { callee := .builtin .copy, args := #[d, s], argTypes := #[t, t'] }) (v u : Value) (hd : a.eval d = v) (hs : a.eval s = u) {v' : Value} {w' : World}
    (hr : (Builtin.copy_ #[t, t'] o.type #[v, u]).run Tryz.prog w = .ok v' w') (h : wpList Tryz.prog ops Q rest (a.put o.dst v') w') : wpList Tryz.prog ops Q (o :: rest) a w := by
  refine wpList_plain hgd fun K hK => ?_
  unfold Oper.wp execOp
  simp only [ho, resolve, invoke, builtin, Sem.run_bind, Sem.run_pure, Result.andThen_ok, List.map_toArray, List.map_cons, List.map_nil, hd, hs, hr]
  exact hK _ _ h
theorem step_copy_run {ops : Array Oper} {o : Oper} {a : Act} {w : World} {K : Act → World → Prop} {Q : Exit → Act → World → Prop} {E : Prop}
    (hg : o.guard = none) (d x : Operand) (dT sT : TypeId) (hop : o.op = Op.call { callee := Callee.builtin Builtin.copy, args := #[d, x], argTypes := #[dT, sT] })
    (v u : Value) (hd : a.eval d = v) (hx : a.eval x = u) {v' : Value} {w' : World} (hr : (Builtin.copy_ #[dT, sT] o.type #[v, u]).run Tryz.prog w = .ok v' w') (hK : K (a.put o.dst v') w') :
    if Region.wanted o (yielded ops a.tmps) = true then Oper.wp Tryz.prog o a w K Q else E := by
  have hw : Region.wanted o (yielded ops a.tmps) = true := by simp [Region.wanted, hg]
  rw [if_pos hw]
  unfold Oper.wp execOp
  simp only [hop, resolve, invoke, builtin, Sem.run_bind, Sem.run_pure, Result.andThen_ok, List.map_toArray, List.map_cons, List.map_nil, hd, hx, hr]
  exact hK
/-- A row of inodes without room, written out. -/
structure Full (w : World) (g n : Nat) (xs : List Value) : Prop where
  len : xs.length = n * 6
  blk : w.heap[g]? = some (.cells xs.toArray 68 (0, 0))
theorem full_of {B : Nat} {w : World} {g n : Nat} {xs : List Value} (h : w.ownsRow B 68 6 (.slice (some ⟨g, 0, none⟩) n n) n xs) : Full w g n xs := by
  rcases h.2 with ⟨h', _⟩ | ⟨g', c, cur, h', _, h3, _, _, h6, h7⟩
  · simp at h'
  · simp at h'
    obtain ⟨rfl, rfl⟩ := h'
    refine ⟨h.1, ?_⟩
    rw [List.take_of_length_le (by rw [Array.length_toList]; omega)] at h7
    rw [h3, ← h7]
theorem Full.cell {w : World} {g n : Nat} {xs : List Value} (h : Full w g n xs) (j : Nat) (u : Value) (hu : xs[j]? = some u) : w.cell? ⟨g, j, none⟩ = some u := by
  rw [cell_of_row w g j _ _ (0, 0) h.blk]
  simpa using hu
theorem Full.lt {w : World} {g n : Nat} {xs : List Value} (h : Full w g n xs) : g < w.heap.size := (Array.getElem?_eq_some_iff.1 h.blk).1
theorem zeroCells_size (z : Array Value) (n : Nat) : (Builtin.zeroCells z n).size = n * z.size := by simp [Builtin.zeroCells]
theorem gr_row (W : World) (g : Nat) (R : Array Value) : W.grownBy (W.setRow g R) (some g) := ⟨rfl, rfl, rfl, by simp, fun k _ hk => setRow_other W g k R (fun e => hk (by simp [e]))⟩
/-- What Insert answers. -/
def InsPost (w : World) (B n : Nat) (ys : List Value) (e : Ending) (w' : World) : Prop :=
  ∃ c, e = .returned (.slice (some ⟨w.heap.size, 0, none⟩) (n + 1) c) ∧ w'.ownsRow B 68 6 (.slice (some ⟨w.heap.size, 0, none⟩) (n + 1) c) (n + 1) ys ∧ Below w.heap.size w w'
set_option maxRecDepth 100000 in
set_option maxHeartbeats 4000000 in
theorem insert_end (B g n vb : Nat) (xs vs : List Value) (w : World) (hs : n ≤ 1048576) (hB : B ≤ w.heap.size) (hx : Full w g n xs) (hv : ∀ j u, vs[j]? = some u → w.cell? ⟨vb, j, none⟩ = some u) (hvl : vs.length = 6) (h1v : ∀ u ∈ vs, u.oneCell' = true) :
    Calls Tryz.prog 252 #[.slice (some ⟨g, 0, none⟩) n n, .int .i64 n, .slice (some ⟨vb, 0, none⟩) 1 1] w fun e w' => InsPost w B n (xs ++ vs) e w' := by
  obtain ⟨ii, hii, zi0, zi1, zi2⟩ := info_parts Tryz.infoInode
  have hgl := hx.lt
  have hsrc : Go.Src Tryz.prog ii.size 45 (.slice (some ⟨vb, 0, none⟩) 1 1) 1 vs w := Go.Src.ofSlice w Tryz.underlying45 ⟨vb, 0, none⟩ 1 1 vs (by rw [hvl, zi1]) (fun j u hj => by rw [Addr.add_lit, Nat.zero_add]; exact hv j u hj) h1v
  have hrun : ∀ ty, (Builtin.append_ #[45, 45] ty #[.slice (some ⟨g, 0, none⟩) n n, .slice (some ⟨vb, 0, none⟩) 1 1]).run Tryz.prog w = _ := fun ty => run_append_grow_src w 45 45 ty 68 ii _ Tryz.underlying45 hii zi0 (some ⟨g, 0, none⟩) n n xs (run_firstCells_some w.drew ii.size n ⟨g, 0, none⟩ n n xs (by rw [hx.len, zi1]) (fun j u hj => by rw [Addr.add_lit, Nat.zero_add]; exact hx.cell j u hj)) (.slice (some ⟨vb, 0, none⟩) 1 1) 1 vs hsrc (by omega) (by omega) (growslice_fits (by omega) (by rw [zi2]; omega))
  have hG := grownCap_ge w (n + 1) n 68
  have hG2 := grownCap_le_maxLen w (n + 1) n 68 (by unfold maxLen; omega)
  obtain ⟨G, hGG⟩ : ∃ G, grownCap w (n + 1) n 68 = G := ⟨_, rfl⟩
  rw [hGG] at hrun hG hG2
  have hlen : (xs ++ vs).length = (n + 1) * 6 := by rw [List.length_append, hx.len, hvl]; omega
  have hfin : Hid (InsPost w B n (xs ++ vs) (.returned (.slice (some ⟨w.heap.size, 0, none⟩) (n + 1) G)) (w.drew.alloc (.cells ((xs ++ vs).toArray ++ Builtin.zeroCells (Value.agg #[.int .i64 0, .int .i64 0, .int .i64 0, .slice none 0 0, .slice none 0 0, .slice none 0 0]).cells (G - (n + 1))) 68))) := by
    refine ⟨G, rfl, ⟨hlen, .inr ⟨w.heap.size, G, _, rfl, hB, heap_alloc_new w.drew _, hG, hG2, ?_, ?_⟩⟩, (Below.refl _ w).drew.alloc (Nat.le_refl _) _⟩
    · rw [Array.size_append, zeroCells_size, List.size_toArray, hlen]
      simp [Value.cells]
      omega
    · rw [← hlen, Array.toList_append, List.take_left' (by simp)]
  clear hG hG2 hlen hsrc hx hv
  have hn0 : (0 : Int) ≤ (n : Int) := by omega
  have hnn : (n : Int) ≤ (n : Int) := Int.le_refl _
  go_enter Tryz.func252, Tryz.ntmps252
  go_wp2_with (at_builtin; refine Lib.wpList_append_run _ rfl _ _ _ _ rfl _ _ rfl rfl _ _ (hrun _) ?_)
  go_ret
  exact hfin.out
set_option maxRecDepth 100000 in
set_option maxHeartbeats 4000000 in
theorem insert_mid (B g n vb k : Nat) (xs vs : List Value) (w : World) (hk : k < n) (hs : n ≤ 1048576) (hB : B ≤ w.heap.size) (hx : Full w g n xs) (hv : ∀ j u, vs[j]? = some u → w.cell? ⟨vb, j, none⟩ = some u) (hvl : vs.length = 6) (h1x : ∀ u ∈ xs, u.oneCell' = true) (h1v : ∀ u ∈ vs, u.oneCell' = true) (hvb : vb < w.heap.size) :
    Calls Tryz.prog 252 #[.slice (some ⟨g, 0, none⟩) n n, .int .i64 k, .slice (some ⟨vb, 0, none⟩) 1 1] w fun e w' => InsPost w B n (xs.take (k * 6) ++ vs ++ xs.drop (k * 6)) e w' := by
  obtain ⟨ii, hii, zi0, zi1, zi2⟩ := info_parts Tryz.infoInode
  have hgl := hx.lt
  have hlx := hx.len
  have hik : k + (n + 1 - k) = n + 1 := by omega
  have hold : (Builtin.firstCells ii.size k (.slice (some ⟨g, 0, none⟩) k n)).run Tryz.prog w.drew = .ok (xs.take (k * 6)).toArray w.drew :=
    run_firstCells_some w.drew ii.size k ⟨g, 0, none⟩ k n (xs.take (k * 6)) (by rw [List.length_take, hlx, zi1]; omega) (fun j u hj => by
      rw [Addr.add_lit, Nat.zero_add]
      rw [List.getElem?_take] at hj
      split at hj
      · exact hx.cell j u hj
      · cases hj)
  have hrz : ∀ ty, (Builtin.append_ #[45, 3] ty #[.slice (some ⟨g, 0, none⟩) k n, .int .i64 ((n : Int) + 1 - (k : Int))]).run Tryz.prog w = .ok (.slice (some ⟨w.heap.size, 0, none⟩) (n + 1) (grownCap w (n + 1) n 68)) (w.drew.alloc (.cells ((xs.take (k * 6)).toArray ++ Builtin.zeroCells (Value.agg #[.int .i64 0, .int .i64 0, .int .i64 0, .slice none 0 0, .slice none 0 0, .slice none 0 0]).cells (n + 1 - k) ++ Builtin.zeroCells (Value.agg #[.int .i64 0, .int .i64 0, .int .i64 0, .slice none 0 0, .slice none 0 0, .slice none 0 0]).cells (grownCap w (n + 1) n 68 - (n + 1))) 68)) := fun ty => by
    have h := Lib.run_append_grow_zeros w 45 3 ty 68 ii _ .i64 .i64 Tryz.underlying45 Tryz.underlying3 hii zi0 (some ⟨g, 0, none⟩) k n (xs.take (k * 6)) hold (n + 1 - k) (by omega) (by omega) (by omega) (by omega) (by rw [zi2]; omega) (by rw [zi2, hik]; exact growslice_fits (by omega) (by omega))
    rw [hik] at h
    rw [show (n : Int) + 1 - (k : Int) = ((n + 1 - k : Nat) : Int) by omega]
    exact h
  have hG := grownCap_ge w (n + 1) n 68
  have hG2 := grownCap_le_maxLen w (n + 1) n 68 (by unfold maxLen; omega)
  obtain ⟨G, hGG⟩ : ∃ G, grownCap w (n + 1) n 68 = G := ⟨_, rfl⟩
  rw [hGG] at hrz hG hG2
  obtain ⟨R1, hR1⟩ : ∃ R, (xs.take (k * 6)).toArray ++ Builtin.zeroCells (Value.agg #[.int .i64 0, .int .i64 0, .int .i64 0, .slice none 0 0, .slice none 0 0, .slice none 0 0]).cells (n + 1 - k) ++ Builtin.zeroCells (Value.agg #[.int .i64 0, .int .i64 0, .int .i64 0, .slice none 0 0, .slice none 0 0, .slice none 0 0]).cells (G - (n + 1)) = R := ⟨_, rfl⟩
  rw [hR1] at hrz
  have hs1 : R1.size = G * 6 := by
    rw [← hR1, Array.size_append, Array.size_append, zeroCells_size, zeroCells_size, List.size_toArray, List.length_take, hlx]
    simp [Value.cells]
    omega
  have ht1 : R1.toList.take (k * 6) = xs.take (k * 6) := by
    rw [← hR1]
    simp only [Array.toList_append, List.append_assoc]
    rw [List.take_left' (by simp; omega)]
  obtain ⟨W1, hW1⟩ : ∃ W, w.drew.alloc (.cells R1 68) = W := ⟨_, rfl⟩
  have hb1 : Below w.heap.size w W1 := by rw [← hW1]; exact (Below.refl _ w).drew.alloc (Nat.le_refl _) _
  have g1 : W1.heap[w.heap.size]? = some (.cells R1 68 (0, 0)) := by rw [← hW1]; exact heap_alloc_new w.drew _
  rw [hW1] at hrz
  have c1 : ∀ ty dc, (Builtin.copy_ #[45, 45] ty #[.slice (some ⟨w.heap.size, k * 6, none⟩) (n + 1 - k) dc, .slice (some ⟨vb, 0, none⟩) 1 1]).run Tryz.prog W1 = _ := fun ty dc => run_copy6 W1 ty w.heap.size (k * 6) (n + 1 - k) dc ⟨vb, 0, none⟩ 1 1 R1 _ vs 1 g1 (by simp only [Nat.min_def]; split <;> omega) (by omega) (fun j u hj => by rw [Addr.add_lit, Nat.zero_add]; exact (hb1.cell (p := ⟨vb, j, none⟩) hvb).trans (hv j u hj)) (by omega) h1v
  obtain ⟨R2, hR2⟩ : ∃ R, (R1.toList.take (k * 6) ++ vs ++ R1.toList.drop (k * 6 + vs.length)).toArray = R := ⟨_, rfl⟩
  rw [hR2] at c1
  have hs2 : R2.size = G * 6 := by
    rw [← hR2]
    simp
    omega
  have ht2 : R2.toList.take ((k + 1) * 6) = xs.take (k * 6) ++ vs := by
    rw [← hR2, ht1]
    dsimp only
    rw [List.take_left' (by rw [List.length_append, List.length_take, hlx]; omega)]
  have g2 : (W1.setRow w.heap.size R2).heap[w.heap.size]? = some (.cells R2 68 (0, 0)) := setRow_heap W1 w.heap.size R1 R2 _ _ g1
  have hb2 : Below w.heap.size w (W1.setRow w.heap.size R2) := hb1.grown (w' := W1.setRow w.heap.size R2) (gr_row W1 w.heap.size R2) hb1.size (fun m hm => by simp at hm; omega) --⟨rfl, rfl, rfl, by simp, fun k _ hk => setRow_other W1 w.heap.size k _ (fun e => hk (by simp [e]))⟩ hb1.size (fun m hm => by simp at hm; omega)
  obtain ⟨W2, hW2⟩ : ∃ W, W1.setRow w.heap.size R2 = W := ⟨_, rfl⟩
  rw [hW2] at c1 g2 hb2
  have c2 : ∀ ty dc sc, (Builtin.copy_ #[45, 45] ty #[.slice (some ⟨w.heap.size, (k + 1) * 6, none⟩) (n + 1 - (k + 1)) dc, .slice (some ⟨g, k * 6, none⟩) (n - k) sc]).run Tryz.prog W2.drew = _ := fun ty dc sc => run_copy6 W2.drew ty w.heap.size ((k + 1) * 6) (n + 1 - (k + 1)) dc ⟨g, k * 6, none⟩ (n - k) sc R2 _ (xs.drop (k * 6)) (n - k) g2 (by simp only [Nat.min_def]; split <;> omega) (by rw [List.length_drop, hlx]; omega) (fun j u hj => by
      rw [Addr.add_lit]
      refine (hb2.cell (p := ⟨g, k * 6 + j, none⟩) hgl).trans (hx.cell _ u ?_)
      rwa [List.getElem?_drop] at hj) (by rw [List.length_drop, hlx]; omega) (fun u hu => h1x u (List.mem_of_mem_drop hu))
  obtain ⟨R3, hR3⟩ : ∃ R, (R2.toList.take ((k + 1) * 6) ++ xs.drop (k * 6) ++ R2.toList.drop ((k + 1) * 6 + (xs.drop (k * 6)).length)).toArray = R := ⟨_, rfl⟩
  rw [hR3] at c2
  have hs3 : R3.size = G * 6 := by
    rw [← hR3]
    simp [hlx]
    omega
  have hlen : (xs.take (k * 6) ++ vs ++ xs.drop (k * 6)).length = (n + 1) * 6 := by
    simp [hlx]
    omega
  have ht3 : R3.toList.take ((n + 1) * 6) = xs.take (k * 6) ++ vs ++ xs.drop (k * 6) := by
    rw [← hR3, ht2]
    dsimp only
    rw [List.take_left' hlen]
  have hfin : Hid (InsPost w B n (xs.take (k * 6) ++ vs ++ xs.drop (k * 6)) (.returned (.slice (some ⟨w.heap.size, 0, none⟩) (n + 1) G)) (W2.drew.setRow w.heap.size R3)) := by
    refine ⟨G, rfl, ⟨hlen, .inr ⟨w.heap.size, G, R3, rfl, hB, setRow_heap W2.drew w.heap.size R2 R3 _ _ g2, hG, hG2, hs3, ht3⟩⟩, ?_⟩
    exact hb2.drew.grown (gr_row W2.drew w.heap.size R3) hb2.size (fun m hm => by simp at hm; omega)
  have hn1 : ¬ (k : Int) = (n : Int) := by omega
  have hn2 : (n : Int) < (n : Int) + 1 := by omega
  have hkn : (k : Int) ≤ (n : Int) := by omega
  have hk0 : (0 : Int) ≤ (k : Int) := by omega
  have hGk : ¬ (G = k) := by omega
  have hGk1 : ¬ (G = k + 1) := by omega
  have hnk : ¬ (n = k) := by omega
  have hnk2 : (k : Int) ≤ (n : Int) + 1 := by omega
  have hw1 : IntKind.i64.wrap ((k : Int) + 1) = (k : Int) + 1 := by rw [IntKind.wrap_i64]; omega
  have hw2 : (0 : Int) ≤ (k : Int) + 1 := by omega
  have hw3 : (k : Int) + 1 ≤ (n : Int) + 1 := by omega
  have hw4 : ((k : Int) + 1).toNat = k + 1 := by omega
  clear hG2 hold hR1 hs1 ht1 hb1 g1 hR2 hs2 ht2 g2 hb2 hR3 hs3 ht3 hlen hx hv hW1 hW2 hGG h1x h1v
  unfold maxLen at *
  go_enter Tryz.func252, Tryz.ntmps252
  go_wp2_with (first
    | (at_builtin; refine Lib.wpList_append_run _ rfl _ _ _ _ rfl _ _ rfl rfl _ _ (hrz _) ?_)
    | (at_builtin; refine wpList_copy_run _ rfl _ _ 45 45 rfl _ _ rfl rfl (c1 _ _) ?_))
  go_region_law (refine step_copy_run rfl _ _ 45 45 rfl (.slice (some ⟨w.heap.size, (k + 1) * 6, none⟩) (n + 1 - (k + 1)) (G - (k + 1))) (.slice (some ⟨g, k * 6, none⟩) (n - k) (n - k)) (by simp [Act.eval, Act.put]) (by simp [Act.eval, Act.put]) (c2 _ (G - (k + 1)) (n - k)) ?_)
  all_goals go_wp2
  all_goals go_ret
  all_goals exact hfin.out
/-- One inode put in. -/
theorem insert_any (B g n vb k : Nat) (xs vs : List Value) (w : World) (hk : k ≤ n) (hs : n ≤ 1048576) (hB : B ≤ w.heap.size) (hx : w.ownsRow B 68 6 (.slice (some ⟨g, 0, none⟩) n n) n xs) (hv : ∀ j u, vs[j]? = some u → w.cell? ⟨vb, j, none⟩ = some u) (hvl : vs.length = 6) (h1x : ∀ u ∈ xs, u.oneCell' = true) (h1v : ∀ u ∈ vs, u.oneCell' = true) (hvb : vb < w.heap.size) :
    Calls Tryz.prog 252 #[.slice (some ⟨g, 0, none⟩) n n, .int .i64 k, .slice (some ⟨vb, 0, none⟩) 1 1] w fun e w' => InsPost w B n (xs.take (k * 6) ++ vs ++ xs.drop (k * 6)) e w' := by
  rcases Nat.lt_or_eq_of_le hk with h | rfl
  · exact insert_mid B g n vb k xs vs w h hs hB (full_of hx) hv hvl h1x h1v hvb
  · have := insert_end B g k vb xs vs w hs hB (full_of hx) hv hvl h1v
    have hl := hx.1
    rw [List.take_of_length_le (by omega), List.drop_of_length_le (by omega), List.append_nil]
    exact this
end

section
open Go.RowKit
/-- The place, or -1. -/
def idxN (rs : List InoR) (x : Int) : Int := if placeOf rs x < rs.length then (placeOf rs x : Int) else -1
set_option maxHeartbeats 1600000 in
theorem clos_any (D : InoD) (a1 a2 a3 : Option Addr) (c1 c2 c3 : Nat) (x : Int) (X : Nat) (w : World) (hX : w.cell? ⟨X, 0, none⟩ = some (.int .i64 x)) :
    Calls Tryz.prog 251 #[.agg #[.int .i64 D.ino, .int .i64 D.kind, .int .i64 D.links, .slice a1 D.data.length c1, .slice a2 D.ents.length c2, .slice a3 D.attrs.length c3], .pointer (some ⟨X, 0, none⟩)] w fun e w' => e = .returned (.bool (decide (x < D.ino))) ∧ Below w.heap.size w w' := by
  have hlt := World.block_lt_of_cell? w _ hX
  have b0 : Below w.heap.size w (w.alloc (.cells #[.int .i64 D.ino, .int .i64 D.kind, .int .i64 D.links, .slice a1 D.data.length c1, .slice a2 D.ents.length c2, .slice a3 D.attrs.length c3] 68)) := (Below.refl _ w).alloc (Nat.le_refl _) _
  have hX' := (b0.cell (p := ⟨X, 0, none⟩) hlt).trans hX
  have z0 := (Blk.new w 68 #[.int .i64 D.ino, .int .i64 D.kind, .int .i64 D.links, .slice a1 D.data.length c1, .slice a2 D.ents.length c2, .slice a3 D.attrs.length c3]).cell 0
  simp at z0
  have HB : Hid _ := b0
  clear hX b0
  by_cases hx : x < D.ino
  · have hd : decide (x < D.ino) = true := by simpa using hx
    rw [hd]
    go_enter Tryz.func251, Tryz.ntmps251
    go_wp2
    go_ret
    exact ⟨by simp_all, HB.out⟩
  · have hd : decide (x < D.ino) = false := by simpa using hx
    rw [hd]
    go_enter Tryz.func251, Tryz.ntmps251
    go_wp2
    go_ret
    exact ⟨by simp_all, HB.out⟩
set_option maxRecDepth 100000 in
set_option maxHeartbeats 2000000 in
theorem indexFunc_any (a : Option Addr) (n cap : Nat) (rs : List InoR) (x : Int) (X : Nat) (w : World) (hn : rs.length = n) (hs : n ≤ 4000000) (hr : RdI w a rs) (hX : w.cell? ⟨X, 0, none⟩ = some (.int .i64 x)) :
    Calls Tryz.prog 250 #[.slice a n cap, .func (.func 251) #[] #[.pointer (some ⟨X, 0, none⟩)]] w fun e w' => e = .returned (.int .i64 (idxN rs x)) ∧ Below w.heap.size w w' := by
  have hXlt := World.block_lt_of_cell? w _ hX
  have HR : Hid _ := hr
  have HX : Hid _ := hX
  have hn' : Hid (rs.length = n) := hn
  have hY : Hid (∀ (k : Nat) (r : InoR), (∀ (j : Nat) (q : InoR), j < k → rs[j]? = some q → q.D.ino ≤ x) → rs[k]? = some r → x < r.D.ino → (k : Int) = idxN rs x) := by
    intro k r h hk he
    unfold idxN
    rw [placeOf_is hk he (fun j q hj hq => Int.not_lt.2 (h j q hj hq)), if_pos (List.getElem?_eq_some_iff.1 hk).1]
  have hE : Hid ((∀ (j : Nat) (q : InoR), j < n → rs[j]? = some q → q.D.ino ≤ x) → (-1 : Int) = idxN rs x) := by
    intro h
    unfold idxN
    rw [placeOf_end (fun j q hq => Int.not_lt.2 (h j q (by rw [← hn]; exact (List.getElem?_eq_some_iff.1 hq).1) hq)), if_neg (by omega)]
  generalize idxN rs x = R at hY hE ⊢
  clear hr hn hX
  go_enter Tryz.func250, Tryz.ntmps250
  go_wp2
  go_loopw [8] (fun i wr => ∃ k : Nat, k ≤ n ∧ i = .int .i64 k ∧ Hid (∀ (j : Nat) (q : InoR), j < k → rs[j]? = some q → q.D.ino ≤ x) ∧ Below w.heap.size w wr) (fun i _ => n - (intOf i).toNat)
  case atStart => exact ⟨0, Nat.zero_le _, rfl, fun j q hj => by omega, Below.refl _ _⟩
  case round =>
    obtain ⟨k, hk, rfl, hall, hB⟩ := hrel
    by_cases hkn : k < n
    · have hki : (k : Int) < (n : Int) := by omega
      obtain ⟨r, hrk⟩ : ∃ r, rs[k]? = some r := ⟨_, List.getElem?_eq_getElem (by rw [hn'.out]; exact hkn)⟩
      obtain ⟨b, off, rfl, hlt, hc⟩ := (RdI.keep HR.out hB).lt (by intro h; have := hn'.out; rw [h] at this; simp at this; omega)
      obtain ⟨⟨x0, x1, x2, x3, x4, x5⟩, _⟩ := hc k r hrk
      have hcc := clos_any r.D r.a1 r.a2 r.a3 r.c1 r.c2 r.c3 x X wr ((hB.cell (p := ⟨X, 0, none⟩) hXlt).trans HX.out)
      have hyes : Hid (x < r.D.ino → (k : Int) = R) := fun he => hY.out k r hall.out hrk he
      have hno : Hid (¬ x < r.D.ino → ∀ (j : Nat) (q : InoR), j < k + 1 → rs[j]? = some q → q.D.ino ≤ x) := by
        intro he j q hj hq
        rcases (show j < k ∨ j = k by omega) with h | rfl
        · exact hall.out j q h hq
        · rw [hrk] at hq
          simp at hq
          rw [← hq]
          exact Int.not_lt.1 he
      clear hc hrk hall hY hE HR HX
      by_cases he : x < r.D.ino
      · have hd : decide (x < r.D.ino) = true := by simpa using he
        rw [hd] at hcc
        have hend : Hid ((k : Int) = R) := hyes.out he
        clear hyes hno hd he
        go_wp2_with (go_at_call 251; (with_reducible refine hcc.mono ?_); rintro e w1 ⟨rfl, b1⟩)
        go_ret
        exact ⟨ret_int hend.out, hB.trans (b1.mono hB.size)⟩
      · have hd : decide (x < r.D.ino) = false := by simpa using he
        rw [hd] at hcc
        have hnx : Hid _ := hno.out he
        clear hyes hno hd he
        go_wp2_with (go_at_call 251; (with_reducible refine hcc.mono ?_); rintro e w1 ⟨rfl, b1⟩)
        go_roundw
        case rel => exact ⟨k + 1, by omega, by go_num, hnx, hB.trans (b1.mono hB.size)⟩
        case measure => simp [intOf]; omega
    · have hki : ¬ (k : Int) < (n : Int) := by omega
      have hend : Hid ((-1 : Int) = R) := hE.out (fun j q hj hq => hall.out j q (by omega) hq)
      clear hY hE HR hall HX
      go_wp2
      go_ret
      exact ⟨ret_int hend.out, hB⟩
end
end Go.Proofs.YtbjfihabkpianaaGreatDoor
