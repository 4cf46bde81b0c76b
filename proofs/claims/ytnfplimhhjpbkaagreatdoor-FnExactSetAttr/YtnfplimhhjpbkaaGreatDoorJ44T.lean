/-
  Joined: FileI, AppZ, SizedI.
-/
import Derived.Test.YtnfplimhhjpbkaaGreatDoorJ43T
namespace Go.Proofs.YtnfplimhhjpbkaaGreatDoor
section
open Go.RowKit
/-- The inode of a path, but one of this kind. -/
def badK (k : Int) (ds : List InoD) (s : ByteArray) : InoD × Int := if (statD ds s).2 = 0 ∧ (statD ds s).1.kind = k then (inoZ.D, 3) else statD ds s
theorem badK_file {ds : List InoD} (h : ∀ D ∈ ds, D.kind = 1 ∨ D.kind = 2) (s : ByteArray) : badK 2 ds s = fileD ds s := by
  unfold badK fileD
  by_cases h0 : (statD ds s).2 = 0
  · have hm : (statD ds s).1 ∈ ds := by
      revert h0
      unfold statD
      split
      · split
        · intro h; simp at h
        · rename_i D hD
          intro _
          exact (look_mem hD).1
      · rename_i hc
        intro h
        exact absurd h hc
    have hk := h _ hm
    by_cases h2 : (statD ds s).1.kind = 2
    · rw [if_pos ⟨h0, h2⟩, if_pos ⟨h0, by omega⟩]
    · rw [if_neg (fun c => h2 c.2), if_neg (fun c => h2 (by omega))]
  · rw [if_neg (fun c => h0 c.1), if_neg (fun c => h0 c.1)]
set_option maxRecDepth 100000 in
set_option maxHeartbeats 4000000 in
theorem fileI (a : Option Addr) (n cap : Nat) (nx : Int) (rs : List InoR) (s : ByteArray) (w : World) (ht : TR w a n rs) (hK : ∀ r ∈ rs, r.D.kind = 1 ∨ r.D.kind = 2) (hwf : ∀ r ∈ rs, (Lit.int .i64 r.D.ino).wf = true) (hwe : ∀ r ∈ rs, ∀ e ∈ r.D.ents, (Lit.int .i64 e.2).wf = true) (hs : s.size ≤ 4000000) :
    Calls Tryz.prog 214 #[.agg #[.slice a n cap, .int .i64 nx], .string s] w fun e w' => EStat w (badK 2 (rs.map InoR.D) s).1 (badK 2 (rs.map InoR.D) s).2 e w' := by
  have B0 : Below w.heap.size w ((w.alloc (.cells #[.slice a n cap, .int .i64 nx] 26)).alloc (.cells #[.int .i64 0, .int .i64 0, .int .i64 0, .slice none 0 0, .slice none 0 0, .slice none 0 0] 66)) := ((Below.refl _ w).alloc (Nat.le_refl _) _).alloc (by simp) _
  have zT : Blk ((w.alloc (.cells #[.slice a n cap, .int .i64 nx] 26)).alloc (.cells #[.int .i64 0, .int .i64 0, .int .i64 0, .slice none 0 0, .slice none 0 0, .slice none 0 0] 66)) w.heap.size 26 #[.slice a n cap, .int .i64 nx] := (Blk.new w _ _).alloc _
  have zR := Blk.new (w.alloc (.cells #[.slice a n cap, .int .i64 nx] 26)) 66 #[.int .i64 0, .int .i64 0, .int .i64 0, .slice none 0 0, .slice none 0 0, .slice none 0 0]
  simp only [World.size_alloc] at zR
  obtain ⟨D, c, hDc⟩ : ∃ D c, statD (rs.map InoR.D) s = (D, c) := ⟨_, _, rfl⟩
  have hp : Hid (∀ (e : Ending) (w' : World) (E : InoD) (q : Int), (if c = 0 ∧ D.kind = 2 then (inoZ.D, (3 : Int)) else (D, c)) = (E, q) → EStat w E q e w' → EStat w (badK 2 (rs.map InoR.D) s).1 (badK 2 (rs.map InoR.D) s).2 e w') := fun e w' E q h hh => by
    unfold badK
    rw [hDc]
    dsimp only
    rw [h]
    exact hh
  generalize EStat w (badK 2 (rs.map InoR.D) s).1 (badK 2 (rs.map InoR.D) s).2 = P at hp ⊢
  go_enter Tryz.func214, Tryz.ntmps214
  go_wp2_with fail
  obtain ⟨W0, hW0⟩ : ∃ W, ((w.alloc (.cells #[.slice a n cap, .int .i64 nx] 26)).alloc (.cells #[.int .i64 0, .int .i64 0, .int .i64 0, .slice none 0 0, .slice none 0 0, .slice none 0 0] 66)) = W := ⟨_, rfl⟩
  rw [hW0] at B0 zT zR ⊢
  clear hW0
  have hcS := statI a n cap nx rs s W0 (ht.keep B0) hK hwf hwe hs
  rw [hDc] at hcS
  dsimp only at hcS
  clear hDc zT ht
  (with_reducible refine hcS.mono ?_)
  rintro e w2 ⟨b1, d1, b2, d2, b3, d3, rfl, g2, bb2⟩
  clear hcS
  have zr := zR.keep bb2
  have hb2 := B0.trans (bb2.mono B0.size)
  have hs1 : w.heap.size + 1 < W0.heap.size := zR.lt
  have z3 := zr.alloc (.cells #[.int .i64 D.ino, .int .i64 D.kind, .int .i64 D.links, .slice b1 D.data.length d1, .slice b2 D.ents.length d2, .slice b3 D.attrs.length d3] 66)
  have hb3 := hb2.alloc hb2.size (.cells #[.int .i64 D.ino, .int .i64 D.kind, .int .i64 D.links, .slice b1 D.data.length d1, .slice b2 D.ents.length d2, .slice b3 D.attrs.length d3] 66)
  have zX := Blk.new w2 66 #[.int .i64 D.ino, .int .i64 D.kind, .int .i64 D.links, .slice b1 D.data.length d1, .slice b2 D.ents.length d2, .slice b3 D.attrs.length d3]
  have g3 := (g2.keep (Nat.le_refl _) ((Below.refl _ w2).alloc (Nat.le_refl _) (.cells #[.int .i64 D.ino, .int .i64 D.kind, .int .i64 D.links, .slice b1 D.data.length d1, .slice b2 D.ents.length d2, .slice b3 D.attrs.length d3] 66))).wider (T' := (w2.alloc (.cells #[.int .i64 D.ino, .int .i64 D.kind, .int .i64 D.links, .slice b1 D.data.length d1, .slice b2 D.ents.length d2, .slice b3 D.attrs.length d3] 66)).heap.size) (Nat.le_refl _) (by simp)
  obtain ⟨t0, t1, t2, t3, t4, t5⟩ := z3.six
  have fz0 := z3.frozen 0
  have fz1 := z3.frozen 1
  have fz2 := z3.frozen 2
  have fz3 := z3.frozen 3
  have fz4 := z3.frozen 4
  have fz5 := z3.frozen 5
  obtain ⟨x0, x1, x2, x3, x4, x5⟩ := zX.six
  obtain ⟨W3, hW3⟩ : ∃ W, w2.alloc (.cells #[.int .i64 D.ino, .int .i64 D.kind, .int .i64 D.links, .slice b1 D.data.length d1, .slice b2 D.ents.length d2, .slice b3 D.attrs.length d3] 66) = W := ⟨_, rfl⟩
  have HZ3 : Hid _ := z3
  have HB3 : Hid _ := hb3
  have HG3 : Hid _ := g3
  rw [hW3] at HZ3 HB3 HG3 t0 t1 t2 t3 t4 t5 fz0 fz1 fz2 fz3 fz4 fz5 x0 x1 x2 x3 x4 x5
  have hfin : Hid ((if c = 0 ∧ D.kind = 2 then (inoZ.D, (3 : Int)) else (D, c)) = (D, c) → P (.returned (.tuple #[.agg #[.int .i64 D.ino, .int .i64 D.kind, .int .i64 D.links, .slice b1 D.data.length d1, .slice b2 D.ents.length d2, .slice b3 D.attrs.length d3], errV c])) ((((((W3.setCell ⟨w.heap.size + 1, 0, none⟩ (.int .i64 D.ino)).setCell ⟨w.heap.size + 1, 1, none⟩ (.int .i64 D.kind)).setCell ⟨w.heap.size + 1, 2, none⟩ (.int .i64 D.links)).setCell ⟨w.heap.size + 1, 3, none⟩ (.slice b1 D.data.length d1)).setCell ⟨w.heap.size + 1, 4, none⟩ (.slice b2 D.ents.length d2)).setCell ⟨w.heap.size + 1, 5, none⟩ (.slice b3 D.attrs.length d3))) := fun h => by
    have hf := at_stored HB3.out HG3.out HZ3.out hs1 (.int .i64 D.ino) (.int .i64 D.kind) (.int .i64 D.links) (.slice b1 D.data.length d1) (.slice b2 D.ents.length d2) (.slice b3 D.attrs.length d3)
    exact hp.out _ _ _ _ h ⟨b1, d1, b2, d2, b3, d3, rfl, hf.1, hf.2⟩
  have HF : Hid _ := blk6 HZ3.out (.int .i64 D.ino) (.int .i64 D.kind) (.int .i64 D.links) (.slice b1 D.data.length d1) (.slice b2 D.ents.length d2) (.slice b3 D.attrs.length d3)
  clear z3 hb3 g3 zr hb2 g2 bb2 zX zR B0
  by_cases hc0 : c = 0
  · subst hc0
    rw [errV_zero]
    by_cases hk : D.kind = 2
    · have hkb : (D.kind == 2) = true := by simp [hk]
      have HE : Hid ((if (0 : Int) = 0 ∧ D.kind = 2 then (inoZ.D, (3 : Int)) else (D, 0)) = (inoZ.D, 3)) := if_pos ⟨rfl, hk⟩
      have HEE : Hid _ := HE
      clear hk
      go_wp2
      have zf := blk6 HZ3.out (.int .i64 0) (.int .i64 0) (.int .i64 0) (.slice none 0 0) (.slice none 0 0) (.slice none 0 0)
      obtain ⟨dd0, dd1, dd2, dd3, dd4, dd5⟩ := zf.six
      refine bodyPost_ret (v := .tuple #[.agg #[.int .i64 0, .int .i64 0, .int .i64 0, .slice none 0 0, .slice none 0 0, .slice none 0 0], .iface 136 (.int .i64 3)]) (by simp [results, Tryz.f214, go_sem, dd0, dd1, dd2, dd3, dd4, dd5]) rfl ?_
      exact hp.out _ _ _ _ HEE.out (eStat_zero rfl (at_stored HB3.out (inoG_zero W3 (w.heap.size + 1 + 1) W3.heap.size) HZ3.out (Nat.lt_succ_self _) _ _ _ _ _ _).2)
    · have hkb : (D.kind == 2) = false := by simpa using hk
      have HE : Hid _ := hfin.out (if_neg (by simp [hk]))
      clear hk
      go_wp2
      obtain ⟨dd0, dd1, dd2, dd3, dd4, dd5⟩ := Blk.six HF.out
      refine bodyPost_ret (v := .tuple #[.agg #[.int .i64 D.ino, .int .i64 D.kind, .int .i64 D.links, .slice b1 D.data.length d1, .slice b2 D.ents.length d2, .slice b3 D.attrs.length d3], .nilIface]) (by simp [results, Tryz.f214, go_sem, dd0, dd1, dd2, dd3, dd4, dd5]) rfl ?_
      exact HE.out
  · have HE : Hid _ := hfin.out (if_neg (by simp [hc0]))
    rw [errV_some hc0] at HE ⊢
    clear hc0
    go_wp2
    obtain ⟨dd0, dd1, dd2, dd3, dd4, dd5⟩ := Blk.six HF.out
    refine bodyPost_ret (v := .tuple #[.agg #[.int .i64 D.ino, .int .i64 D.kind, .int .i64 D.links, .slice b1 D.data.length d1, .slice b2 D.ents.length d2, .slice b3 D.attrs.length d3], .iface 136 (.int .i64 c)]) (by simp [results, Tryz.f214, go_sem, dd0, dd1, dd2, dd3, dd4, dd5]) rfl ?_
    exact HE.out
end

section
open Go.RowKit
theorem run_append_room_zeros {P : Program} (w : World) (t tn ty e : TypeId) (i : TypeInfo) (z : Value) (kq kn : IntKind) (ht : P.underlying t = some (.slice e)) (htn : P.underlying tn = some (.int kn)) (hi : P.info? e = some i) (hz : i.zero = some z)
    (g sLen sCap : Nat) (cur : Array Value) (hg : w.heap[g]? = some (.cells cur e (0, 0))) (k : Nat) (h0 : 0 < k) (hs : 0 < i.size) (hroom : sLen + k ≤ sCap) (h63 : ((k : Nat) : Int) ≤ 9223372036854775807) (h48 : k * i.bytes ≤ 281474976710656)
    (h1 : ∀ u ∈ (Builtin.zeroCells z.cells k).toList, u.oneCell' = true) (hfit : sLen * i.size + (Builtin.zeroCells z.cells k).toList.length ≤ cur.size) :
    (Builtin.append_ #[t, tn] ty #[.slice (some ⟨g, 0, none⟩) sLen sCap, .int kq k]).run P w =
      .ok (.slice (some ⟨g, 0, none⟩) (sLen + k) sCap) (w.setRow g (cur.toList.take (sLen * i.size) ++ (Builtin.zeroCells z.cells k).toList ++ cur.toList.drop (sLen * i.size + (Builtin.zeroCells z.cells k).toList.length)).toArray) := by
  have hst := run_storeCells_at P g (sLen * i.size) e (Builtin.zeroCells z.cells k).toList 0 cur w hg (by simpa using hfit) h1
  simp only [Nat.add_zero] at hst
  have hk : k ≠ 0 := by omega
  have hw : IntKind.i64.wrap (k : Int) = k := by rw [IntKind.wrap_i64]; omega
  have h48i : ¬ (281474976710656 < (k : Int) * (i.bytes : Int)) := by
    rw [← Int.natCast_mul]
    omega
  have hneg : ¬ ((k : Int) < 0) := by omega
  have hns : ¬ (k * i.size = 0) := Nat.mul_ne_zero hk (by omega)
  obtain ⟨R, hR⟩ : ∃ R, (w.setRow g (cur.toList.take (sLen * i.size) ++ (Builtin.zeroCells z.cells k).toList ++ cur.toList.drop (sLen * i.size + (Builtin.zeroCells z.cells k).toList.length)).toArray) = R := ⟨_, rfl⟩
  rw [hR] at hst ⊢
  simp [Builtin.append_, run_underlying ht, run_underlying htn, sizeOf, typeInfo, zeroValue, hi, hz, asInt, asIntOf, hw, hneg, hns, h48i, hroom, Addr.add_lit, hst]
theorem zc_bytes (k : Nat) : (Builtin.zeroCells (Value.int .u8 0).cells k).toList = (List.replicate k (0 : Int)).map (Value.int .u8) := by
  induction k with
  | zero => simp [Builtin.zeroCells]
  | succ k ih =>
    have e : Builtin.zeroCells (Value.int .u8 0).cells (k + 1) = (Builtin.zeroCells (Value.int .u8 0).cells k).push (.int .u8 0) := by
      apply Array.ext
      · simp [Builtin.zeroCells, Value.cells]
      · intro i h1 h2
        simp [Builtin.zeroCells, Value.cells, Array.getElem_push, Nat.mod_one]
    rw [e, Array.toList_push, ih, List.replicate_succ', List.map_append]
    rfl
theorem grown_setRow (w : World) (g : Nat) (cs : Array Value) : w.grownBy (w.setRow g cs) (some g) := by
  refine ⟨rfl, rfl, rfl, ?_, fun k hk hne => ?_⟩
  · simp [World.setRow]
  · have : g ≠ k := fun e => hne (by rw [e])
    simp [World.setRow, Array.getElem?_modify, this]
/-- k noughts appended to bytes of one's own. -/
theorem zeros_any (B : Nat) (v : Value) (n k : Nat) (zs : List Int) (w : World) (h : OwnV B w v n zs) (hk : 0 < k) (hs : n + k ≤ 1000000) (hB : B ≤ w.heap.size) :
    ∃ v' w', (∀ ty, (Builtin.append_ #[22, 3] ty #[v, .int .i64 (k : Int)]).run Tryz.prog w = .ok v' w') ∧ OwnV B w' v' (n + k) (zs ++ List.replicate k 0) ∧ w.grownBy w' v.ownBlock := by
  obtain ⟨i, hi, z0, z1, z2⟩ := info_parts Tryz.info5
  have hlz : (zs.map (Value.int .u8)).length = n := by rw [List.length_map]; exact h.len
  have hzl : (Builtin.zeroCells (Value.int .u8 0).cells k).toList.length = k := by rw [zc_bytes]; simp
  have hone : ∀ u ∈ (Builtin.zeroCells (Value.int .u8 0).cells k).toList, u.oneCell' = true := by
    rw [zc_bytes]
    intro u hu
    obtain ⟨x, _, rfl⟩ := List.mem_map.1 hu
    rfl
  have hgrow : ∀ (base : Option Addr) (cap : Nat), cap < n + k → (Builtin.firstCells i.size n (.slice base n cap)).run Tryz.prog w.drew = .ok (zs.map (Value.int .u8)).toArray w.drew → ∃ v' w', (∀ ty, (Builtin.append_ #[22, 3] ty #[.slice base n cap, .int .i64 (k : Int)]).run Tryz.prog w = .ok v' w') ∧ OwnV B w' v' (n + k) (zs ++ List.replicate k 0) ∧ w.grownBy w' (Value.slice base n cap).ownBlock := by
    intro base cap hcap hold
    have hG := grownCap_ge w (n + k) cap 5
    have hG2 := grownCap_le_maxLen w (n + k) cap 5 (by unfold maxLen; omega)
    have hr := fun ty => Lib.run_append_grow_zeros (P := Tryz.prog) w 22 3 ty 5 i (.int .u8 0) .i64 .i64 Tryz.underlying22 Tryz.underlying3 hi z0 base n cap (zs.map (Value.int .u8)) hold k hk (by omega) hcap (by omega) (by rw [z2]; omega) (by
      rw [z2]
      exact growslice_fits hcap (by omega))
    obtain ⟨G, hGG⟩ : ∃ G, grownCap w (n + k) cap 5 = G := ⟨_, rfl⟩
    rw [hGG] at hr hG hG2
    have hsz : ((zs.map (Value.int .u8)).toArray ++ Builtin.zeroCells (Value.int .u8 0).cells k ++ Builtin.zeroCells (Value.int .u8 0).cells (G - (n + k))).size = G * 1 := by
      rw [Array.size_append, Array.size_append, List.size_toArray, hlz, ← Array.length_toList, hzl, ← Array.length_toList, zc_bytes]
      simp
      omega
    have htk : (((zs.map (Value.int .u8)).toArray ++ Builtin.zeroCells (Value.int .u8 0).cells k ++ Builtin.zeroCells (Value.int .u8 0).cells (G - (n + k))).toList.take ((n + k) * 1)) = (zs ++ List.replicate k 0).map (Value.int .u8) := by
      rw [Array.toList_append, Array.toList_append, zc_bytes, zc_bytes, Nat.mul_one, List.take_append_of_le_length (by simp [h.len]), List.take_of_length_le (by simp [h.len]), List.map_append]
    refine ⟨_, _, hr, ⟨by simp [h.len], .inr ⟨w.heap.size, G, _, rfl, hB, ?_, hG, hG2, hsz, htk⟩⟩, ?_⟩
    · exact heap_alloc_new w.drew _
    · have bb : Below w.heap.size w (w.drew.alloc (.cells ((zs.map (Value.int .u8)).toArray ++ Builtin.zeroCells (Value.int .u8 0).cells k ++ Builtin.zeroCells (Value.int .u8 0).cells (G - (n + k))) 5)) := ((Below.refl w.heap.size w).drew).alloc (Nat.le_refl _) _
      exact ⟨bb.os, bb.tape, bb.output, bb.size, fun j hj _ => bb.block j hj⟩
  rcases h.2 with ⟨rfl, rfl⟩ | ⟨g, cap, cur, rfl, hg, hh, hnc, hcm, hcs, htk⟩
  · refine hgrow none 0 (by omega) ?_
    have hz0 : zs = [] := by have := h.len; exact List.length_eq_zero_iff.1 this
    rw [hz0]
    exact run_firstCells_none w.drew i.size 0 0 0
  · by_cases hroom : n + k ≤ cap
    · have hr := fun ty => run_append_room_zeros (P := Tryz.prog) w 22 3 ty 5 i (.int .u8 0) .i64 .i64 Tryz.underlying22 Tryz.underlying3 hi z0 g n cap cur hh k hk (by omega) hroom (by omega) (by rw [z2]; omega) hone (by rw [z1, hzl, hcs]; omega)
      rw [z1, zc_bytes, Nat.mul_one] at hr
      rw [Nat.mul_one] at htk hcs
      refine ⟨_, _, hr, ⟨by simp [h.len], .inr ⟨g, cap, _, rfl, hg, setRow_heap w g cur _ 5 _ hh, hroom, hcm, ?_, ?_⟩⟩, grown_setRow w g _⟩
      · have hl0 : cur.toList.length = cap := by simpa using hcs
        simp only [List.size_toArray, List.length_append, List.length_take, List.length_map, List.length_replicate, List.length_drop, hl0]
        omega
      · have hl0 : cur.toList.length = cap := by simpa using hcs
        rw [htk, Nat.mul_one, List.append_assoc, ← List.append_assoc, ← List.map_append, List.take_append_of_le_length (by simp [h.len]), List.take_of_length_le (by simp [h.len])]
    · refine hgrow (some ⟨g, 0, none⟩) cap (by omega) (run_firstCells_some w.drew i.size n ⟨g, 0, none⟩ n cap _ (by rw [hlz, z1]; omega) (fun j u hj => ?_))
      rw [Addr.add_lit, Nat.zero_add]
      have hjn : j < n := by
        have := (List.getElem?_eq_some_iff.1 hj).1
        rw [hlz] at this
        exact this
      have := World.ownsRow.cellAt h j (by omega)
      rw [hj] at this
      exact this
end

section
open Go.RowKit
def sizeTo (d : List Int) (k : Nat) : List Int := (d ++ List.replicate (k - d.length) 0).take k
theorem sizeTo_le {d : List Int} {k : Nat} (h : k ≤ d.length) : sizeTo d k = d.take k := by
  unfold sizeTo
  rw [List.take_append_of_le_length h]
theorem sizeTo_gt {d : List Int} {k : Nat} (h : d.length ≤ k) : sizeTo d k = d ++ List.replicate (k - d.length) 0 := by
  unfold sizeTo
  exact List.take_of_length_le (by simp; omega)
theorem own_take {B : Nat} {w : World} {g cap n m : Nat} {zs : List Int} (h : OwnV B w (.slice (some ⟨g, 0, none⟩) n cap) n zs) (hm : m ≤ n) : OwnV B w (.slice (some ⟨g, 0, none⟩) m cap) m (zs.take m) := by
  have hl := h.len
  refine ⟨by simp; omega, ?_⟩
  rcases h.2 with ⟨hv, _⟩ | ⟨g', cap', cur, hv, hg, hh, hnc, hcm, hcs, htk⟩
  · simp at hv
  · simp only [Value.slice.injEq, Option.some.injEq, Addr.mk.injEq, and_true, true_and] at hv
    obtain ⟨rfl, rfl⟩ := hv
    refine .inr ⟨g, cap, cur, rfl, hg, hh, by omega, hcm, hcs, ?_⟩
    rw [Nat.mul_one] at htk ⊢
    have e := congrArg (List.take m) htk
    rw [List.take_take, Nat.min_eq_left hm] at e
    rw [e, List.map_take]
theorem wpList_zeros (W : World) {ops : Array Oper} {rest : List Oper} {o : Oper} {a : Act} {Q : Exit → Act → World → Prop} (hgd : o.guard = none) (s x : Operand)
    (ho : o.op = .call { callee := .builtin .append, args := #[s, x], argTypes := #[22, 3] }) (v u v' : Value) (W' : World) (hs : a.eval s = v) (hx : a.eval x = u) (hr : ∀ ty, (Builtin.append_ #[22, 3] ty #[v, u]).run Tryz.prog W = .ok v' W')
    (h : wpList Tryz.prog ops Q rest (a.put o.dst v') W') : wpList Tryz.prog ops Q (o :: rest) a W := by
  refine wpList_plain hgd fun K hK => ?_
  unfold Oper.wp execOp
  simp only [ho, resolve, invoke, builtin, Sem.run_bind, Sem.run_pure, Result.andThen_ok, List.map_toArray, List.map_cons, List.map_nil, hs, hx, hr]
  exact hK _ _ h
set_option maxRecDepth 100000 in
set_option maxHeartbeats 1000000 in
theorem sizedI (B : Nat) (v : Value) (n m : Nat) (zs : List Int) (w : World) (h : OwnV B w v n zs) (hs : n ≤ 100000) (hm : m ≤ 100000) (hB : B ≤ w.heap.size) :
    Calls Tryz.prog 215 #[v, .int .i64 m] w fun e w' => ∃ v', e = .returned v' ∧ OwnV B w' v' m (sizeTo zs m) ∧ w.grownBy w' v.ownBlock := by
  have hl := h.len
  have hgr : w.grownBy w v.ownBlock := ⟨rfl, rfl, rfl, Nat.le_refl _, fun _ _ _ => rfl⟩
  by_cases hmn : m ≤ n
  · have hmi : (m : Int) ≤ (n : Int) := by omega
    rw [sizeTo_le (by omega)]
    rcases h.2 with ⟨rfl, rfl⟩ | ⟨g, cap, cur, rfl, hg, hh, hnc, hcm, _⟩
    · obtain rfl : m = 0 := by omega
      obtain rfl : zs = [] := List.length_eq_zero_iff.1 hl
      have HE : Hid _ := And.intro h hgr
      clear hl hmn hmi h hgr
      go_enter Tryz.func215, Tryz.ntmps215
      go_wp2
      go_ret
      exact ⟨_, rfl, HE.out.1, HE.out.2⟩
    · have HE : Hid _ := And.intro (own_take h hmn) hgr
      have hmc : (m : Int) ≤ (cap : Int) := by omega
      have hm0 : (0 : Int) ≤ (m : Int) := by omega
      clear hl h hgr hh
      go_enter Tryz.func215, Tryz.ntmps215
      go_wp2
      go_ret
      exact ⟨_, rfl, HE.out.1, HE.out.2⟩
  · have hmi : ¬ (m : Int) ≤ (n : Int) := by omega
    obtain ⟨v', w', hr, ho, hg⟩ := zeros_any B v n (m - n) zs w h (by omega) (by omega) hB
    rw [show n + (m - n) = m by omega, show m - n = m - zs.length by omega, ← sizeTo_gt (by omega)] at ho
    rw [show ((m - n : Nat) : Int) = (m : Int) - (n : Int) by omega] at hr
    obtain ⟨a, c, rfl⟩ : ∃ a c, v = .slice a n c := by
      rcases h.2 with ⟨rfl, rfl⟩ | ⟨g, c, cur, rfl, _⟩
      · exact ⟨none, 0, rfl⟩
      · exact ⟨_, _, rfl⟩
    have HE : Hid _ := And.intro ho hg
    clear ho hg h hl hgr
    go_enter Tryz.func215, Tryz.ntmps215
    go_wp2_with (first
      | (at_builtin; refine wpList_zeros w rfl (.tmp 12) (.tmp 16) rfl (.slice a n c) (.int .i64 ((m : Int) - (n : Int))) v' w' rfl rfl hr ?_)
      | go_in)
    go_ret
    exact ⟨_, rfl, HE.out.1, HE.out.2⟩
end
end Go.Proofs.YtnfplimhhjpbkaaGreatDoor
