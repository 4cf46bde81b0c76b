/-
  Joined: FileI, Insert, IdxF.
-/
import Derived.Test.YtmfimoccemgoiaaGreatDoorNext7D
import Derived.Test.YtmfimoccemgoiaaGreatDoorJ29D
import Derived.Lib.AppendZerosOnto
import Derived.Laws.CopyRow
namespace Go.Proofs.YtmfimoccemgoiaaGreatDoor
section
open Go.RowKit
/-- The inode of a path, but one of this kind. -/
def badK (k : Int) (ds : List InoD) (s : ByteArray) : InoD × Int := if (statD ds s).2 = 0 ∧ (statD ds s).1.kind = k then (inoZ.D, 3) else statD ds s
theorem badK_file {ds : List InoD} (h : ∀ D ∈ ds, D.kind = 1 ∨ D.kind = 2) (s : ByteArray) : badK 2 ds s = fileD ds s := by
  unfold badK fileD
  by_cases h0 : (statD ds s).2 = 0
  · have hm : (statD ds s).1 ∈ ds := by
      revert h0
      unfold statD
      split
      · split
        · intro h; simp at h
        · rename_i D hD
          intro _
          exact (look_mem hD).1
      · rename_i hc
        intro h
        exact absurd h hc
    have hk := h _ hm
    by_cases h2 : (statD ds s).1.kind = 2
    · rw [if_pos ⟨h0, h2⟩, if_pos ⟨h0, by omega⟩]
    · rw [if_neg (fun c => h2 c.2), if_neg (fun c => h2 (by omega))]
  · rw [if_neg (fun c => h0 c.1), if_neg (fun c => h0 c.1)]
set_option maxRecDepth 100000 in
set_option maxHeartbeats 4000000 in
theorem fileI (a : Option Addr) (n cap : Nat) (nx : Int) (rs : List InoR) (s : ByteArray) (w : World) (ht : TR w a n rs) (hK : ∀ r ∈ rs, r.D.kind = 1 ∨ r.D.kind = 2) (hwf : ∀ r ∈ rs, (Lit.int .i64 r.D.ino).wf = true) (hwe : ∀ r ∈ rs, ∀ e ∈ r.D.ents, (Lit.int .i64 e.2).wf = true) (hs : s.size ≤ 4000000) :
    Calls Tryz.prog 218 #[.agg #[.slice a n cap, .int .i64 nx], .string s] w fun e w' => EStat w (badK 2 (rs.map InoR.D) s).1 (badK 2 (rs.map InoR.D) s).2 e w' := by
  have B0 : Below w.heap.size w ((w.alloc (.cells #[.slice a n cap, .int .i64 nx] 28)).alloc (.cells #[.int .i64 0, .int .i64 0, .int .i64 0, .slice none 0 0, .slice none 0 0, .slice none 0 0] 68)) := ((Below.refl _ w).alloc (Nat.le_refl _) _).alloc (by simp) _
  have zT : Blk ((w.alloc (.cells #[.slice a n cap, .int .i64 nx] 28)).alloc (.cells #[.int .i64 0, .int .i64 0, .int .i64 0, .slice none 0 0, .slice none 0 0, .slice none 0 0] 68)) w.heap.size 28 #[.slice a n cap, .int .i64 nx] := (Blk.new w _ _).alloc _
  have zR := Blk.new (w.alloc (.cells #[.slice a n cap, .int .i64 nx] 28)) 68 #[.int .i64 0, .int .i64 0, .int .i64 0, .slice none 0 0, .slice none 0 0, .slice none 0 0]
  simp only [World.size_alloc] at zR
  obtain ⟨D, c, hDc⟩ : ∃ D c, statD (rs.map InoR.D) s = (D, c) := ⟨_, _, rfl⟩
  have hp : Hid (∀ (e : Ending) (w' : World) (E : InoD) (q : Int), (if c = 0 ∧ D.kind = 2 then (inoZ.D, (3 : Int)) else (D, c)) = (E, q) → EStat w E q e w' → EStat w (badK 2 (rs.map InoR.D) s).1 (badK 2 (rs.map InoR.D) s).2 e w') := fun e w' E q h hh => by
    unfold badK
    rw [hDc]
    dsimp only
    rw [h]
    exact hh
  generalize EStat w (badK 2 (rs.map InoR.D) s).1 (badK 2 (rs.map InoR.D) s).2 = P at hp ⊢
  go_enter Tryz.func218, Tryz.ntmps218
  go_wp2_with fail
  obtain ⟨W0, hW0⟩ : ∃ W, ((w.alloc (.cells #[.slice a n cap, .int .i64 nx] 28)).alloc (.cells #[.int .i64 0, .int .i64 0, .int .i64 0, .slice none 0 0, .slice none 0 0, .slice none 0 0] 68)) = W := ⟨_, rfl⟩
  rw [hW0] at B0 zT zR ⊢
  clear hW0
  have hcS := statI a n cap nx rs s W0 (ht.keep B0) hK hwf hwe hs
  rw [hDc] at hcS
  dsimp only at hcS
  clear hDc zT ht
  (with_reducible refine hcS.mono ?_)
  rintro e w2 ⟨b1, d1, b2, d2, b3, d3, rfl, g2, bb2⟩
  clear hcS
  have zr := zR.keep bb2
  have hb2 := B0.trans (bb2.mono B0.size)
  have hs1 : w.heap.size + 1 < W0.heap.size := zR.lt
  have z3 := zr.alloc (.cells #[.int .i64 D.ino, .int .i64 D.kind, .int .i64 D.links, .slice b1 D.data.length d1, .slice b2 D.ents.length d2, .slice b3 D.attrs.length d3] 68)
  have hb3 := hb2.alloc hb2.size (.cells #[.int .i64 D.ino, .int .i64 D.kind, .int .i64 D.links, .slice b1 D.data.length d1, .slice b2 D.ents.length d2, .slice b3 D.attrs.length d3] 68)
  have zX := Blk.new w2 68 #[.int .i64 D.ino, .int .i64 D.kind, .int .i64 D.links, .slice b1 D.data.length d1, .slice b2 D.ents.length d2, .slice b3 D.attrs.length d3]
  have g3 := (g2.keep (Nat.le_refl _) ((Below.refl _ w2).alloc (Nat.le_refl _) (.cells #[.int .i64 D.ino, .int .i64 D.kind, .int .i64 D.links, .slice b1 D.data.length d1, .slice b2 D.ents.length d2, .slice b3 D.attrs.length d3] 68))).wider (T' := (w2.alloc (.cells #[.int .i64 D.ino, .int .i64 D.kind, .int .i64 D.links, .slice b1 D.data.length d1, .slice b2 D.ents.length d2, .slice b3 D.attrs.length d3] 68)).heap.size) (Nat.le_refl _) (by simp)
  obtain ⟨t0, t1, t2, t3, t4, t5⟩ := z3.six
  have fz0 := z3.frozen 0
  have fz1 := z3.frozen 1
  have fz2 := z3.frozen 2
  have fz3 := z3.frozen 3
  have fz4 := z3.frozen 4
  have fz5 := z3.frozen 5
  obtain ⟨x0, x1, x2, x3, x4, x5⟩ := zX.six
  obtain ⟨W3, hW3⟩ : ∃ W, w2.alloc (.cells #[.int .i64 D.ino, .int .i64 D.kind, .int .i64 D.links, .slice b1 D.data.length d1, .slice b2 D.ents.length d2, .slice b3 D.attrs.length d3] 68) = W := ⟨_, rfl⟩
  have HZ3 : Hid _ := z3
  have HB3 : Hid _ := hb3
  have HG3 : Hid _ := g3
  rw [hW3] at HZ3 HB3 HG3 t0 t1 t2 t3 t4 t5 fz0 fz1 fz2 fz3 fz4 fz5 x0 x1 x2 x3 x4 x5
  have hfin : Hid ((if c = 0 ∧ D.kind = 2 then (inoZ.D, (3 : Int)) else (D, c)) = (D, c) → P (.returned (.tuple #[.agg #[.int .i64 D.ino, .int .i64 D.kind, .int .i64 D.links, .slice b1 D.data.length d1, .slice b2 D.ents.length d2, .slice b3 D.attrs.length d3], errV c])) ((((((W3.setCell ⟨w.heap.size + 1, 0, none⟩ (.int .i64 D.ino)).setCell ⟨w.heap.size + 1, 1, none⟩ (.int .i64 D.kind)).setCell ⟨w.heap.size + 1, 2, none⟩ (.int .i64 D.links)).setCell ⟨w.heap.size + 1, 3, none⟩ (.slice b1 D.data.length d1)).setCell ⟨w.heap.size + 1, 4, none⟩ (.slice b2 D.ents.length d2)).setCell ⟨w.heap.size + 1, 5, none⟩ (.slice b3 D.attrs.length d3))) := fun h => by
    have hf := at_stored HB3.out HG3.out HZ3.out hs1 (.int .i64 D.ino) (.int .i64 D.kind) (.int .i64 D.links) (.slice b1 D.data.length d1) (.slice b2 D.ents.length d2) (.slice b3 D.attrs.length d3)
    exact hp.out _ _ _ _ h ⟨b1, d1, b2, d2, b3, d3, rfl, hf.1, hf.2⟩
  have HF : Hid _ := blk6 HZ3.out (.int .i64 D.ino) (.int .i64 D.kind) (.int .i64 D.links) (.slice b1 D.data.length d1) (.slice b2 D.ents.length d2) (.slice b3 D.attrs.length d3)
  clear z3 hb3 g3 zr hb2 g2 bb2 zX zR B0
  by_cases hc0 : c = 0
  · subst hc0
    rw [errV_zero]
    by_cases hk : D.kind = 2
    · have hkb : (D.kind == 2) = true := by simp [hk]
      have HE : Hid ((if (0 : Int) = 0 ∧ D.kind = 2 then (inoZ.D, (3 : Int)) else (D, 0)) = (inoZ.D, 3)) := if_pos ⟨rfl, hk⟩
      have HEE : Hid _ := HE
      clear hk
      go_wp2
      have zf := blk6 HZ3.out (.int .i64 0) (.int .i64 0) (.int .i64 0) (.slice none 0 0) (.slice none 0 0) (.slice none 0 0)
      obtain ⟨dd0, dd1, dd2, dd3, dd4, dd5⟩ := zf.six
      refine bodyPost_ret (v := .tuple #[.agg #[.int .i64 0, .int .i64 0, .int .i64 0, .slice none 0 0, .slice none 0 0, .slice none 0 0], .iface 155 (.int .i64 3)]) (by simp [results, Tryz.f218, go_sem, dd0, dd1, dd2, dd3, dd4, dd5]) rfl ?_
      exact hp.out _ _ _ _ HEE.out (eStat_zero rfl (at_stored HB3.out (inoG_zero W3 (w.heap.size + 1 + 1) W3.heap.size) HZ3.out (Nat.lt_succ_self _) _ _ _ _ _ _).2)
    · have hkb : (D.kind == 2) = false := by simpa using hk
      have HE : Hid _ := hfin.out (if_neg (by simp [hk]))
      clear hk
      go_wp2
      obtain ⟨dd0, dd1, dd2, dd3, dd4, dd5⟩ := Blk.six HF.out
      refine bodyPost_ret (v := .tuple #[.agg #[.int .i64 D.ino, .int .i64 D.kind, .int .i64 D.links, .slice b1 D.data.length d1, .slice b2 D.ents.length d2, .slice b3 D.attrs.length d3], .nilIface]) (by simp [results, Tryz.f218, go_sem, dd0, dd1, dd2, dd3, dd4, dd5]) rfl ?_
      exact HE.out
  · have HE : Hid _ := hfin.out (if_neg (by simp [hc0]))
    rw [errV_some hc0] at HE ⊢
    clear hc0
    go_wp2
    obtain ⟨dd0, dd1, dd2, dd3, dd4, dd5⟩ := Blk.six HF.out
    refine bodyPost_ret (v := .tuple #[.agg #[.int .i64 D.ino, .int .i64 D.kind, .int .i64 D.links, .slice b1 D.data.length d1, .slice b2 D.ents.length d2, .slice b3 D.attrs.length d3], .iface 155 (.int .i64 c)]) (by simp [results, Tryz.f218, go_sem, dd0, dd1, dd2, dd3, dd4, dd5]) rfl ?_
    exact HE.out
set_option maxRecDepth 100000 in
set_option maxHeartbeats 4000000 in
theorem dirI (a : Option Addr) (n cap : Nat) (nx : Int) (rs : List InoR) (s : ByteArray) (w : World) (ht : TR w a n rs) (hK : ∀ r ∈ rs, r.D.kind = 1 ∨ r.D.kind = 2) (hwf : ∀ r ∈ rs, (Lit.int .i64 r.D.ino).wf = true) (hwe : ∀ r ∈ rs, ∀ e ∈ r.D.ents, (Lit.int .i64 e.2).wf = true) (hs : s.size ≤ 4000000) :
    Calls Tryz.prog 224 #[.agg #[.slice a n cap, .int .i64 nx], .string s] w fun e w' => EStat w (badK 1 (rs.map InoR.D) s).1 (badK 1 (rs.map InoR.D) s).2 e w' := by
  have B0 : Below w.heap.size w ((w.alloc (.cells #[.slice a n cap, .int .i64 nx] 28)).alloc (.cells #[.int .i64 0, .int .i64 0, .int .i64 0, .slice none 0 0, .slice none 0 0, .slice none 0 0] 68)) := ((Below.refl _ w).alloc (Nat.le_refl _) _).alloc (by simp) _
  have zT : Blk ((w.alloc (.cells #[.slice a n cap, .int .i64 nx] 28)).alloc (.cells #[.int .i64 0, .int .i64 0, .int .i64 0, .slice none 0 0, .slice none 0 0, .slice none 0 0] 68)) w.heap.size 28 #[.slice a n cap, .int .i64 nx] := (Blk.new w _ _).alloc _
  have zR := Blk.new (w.alloc (.cells #[.slice a n cap, .int .i64 nx] 28)) 68 #[.int .i64 0, .int .i64 0, .int .i64 0, .slice none 0 0, .slice none 0 0, .slice none 0 0]
  simp only [World.size_alloc] at zR
  obtain ⟨D, c, hDc⟩ : ∃ D c, statD (rs.map InoR.D) s = (D, c) := ⟨_, _, rfl⟩
  have hp : Hid (∀ (e : Ending) (w' : World) (E : InoD) (q : Int), (if c = 0 ∧ D.kind = 1 then (inoZ.D, (3 : Int)) else (D, c)) = (E, q) → EStat w E q e w' → EStat w (badK 1 (rs.map InoR.D) s).1 (badK 1 (rs.map InoR.D) s).2 e w') := fun e w' E q h hh => by
    unfold badK
    rw [hDc]
    dsimp only
    rw [h]
    exact hh
  generalize EStat w (badK 1 (rs.map InoR.D) s).1 (badK 1 (rs.map InoR.D) s).2 = P at hp ⊢
  go_enter Tryz.func224, Tryz.ntmps224
  go_wp2_with fail
  obtain ⟨W0, hW0⟩ : ∃ W, ((w.alloc (.cells #[.slice a n cap, .int .i64 nx] 28)).alloc (.cells #[.int .i64 0, .int .i64 0, .int .i64 0, .slice none 0 0, .slice none 0 0, .slice none 0 0] 68)) = W := ⟨_, rfl⟩
  rw [hW0] at B0 zT zR ⊢
  clear hW0
  have hcS := statI a n cap nx rs s W0 (ht.keep B0) hK hwf hwe hs
  rw [hDc] at hcS
  dsimp only at hcS
  clear hDc zT ht
  (with_reducible refine hcS.mono ?_)
  rintro e w2 ⟨b1, d1, b2, d2, b3, d3, rfl, g2, bb2⟩
  clear hcS
  have zr := zR.keep bb2
  have hb2 := B0.trans (bb2.mono B0.size)
  have hs1 : w.heap.size + 1 < W0.heap.size := zR.lt
  have z3 := zr.alloc (.cells #[.int .i64 D.ino, .int .i64 D.kind, .int .i64 D.links, .slice b1 D.data.length d1, .slice b2 D.ents.length d2, .slice b3 D.attrs.length d3] 68)
  have hb3 := hb2.alloc hb2.size (.cells #[.int .i64 D.ino, .int .i64 D.kind, .int .i64 D.links, .slice b1 D.data.length d1, .slice b2 D.ents.length d2, .slice b3 D.attrs.length d3] 68)
  have zX := Blk.new w2 68 #[.int .i64 D.ino, .int .i64 D.kind, .int .i64 D.links, .slice b1 D.data.length d1, .slice b2 D.ents.length d2, .slice b3 D.attrs.length d3]
  have g3 := (g2.keep (Nat.le_refl _) ((Below.refl _ w2).alloc (Nat.le_refl _) (.cells #[.int .i64 D.ino, .int .i64 D.kind, .int .i64 D.links, .slice b1 D.data.length d1, .slice b2 D.ents.length d2, .slice b3 D.attrs.length d3] 68))).wider (T' := (w2.alloc (.cells #[.int .i64 D.ino, .int .i64 D.kind, .int .i64 D.links, .slice b1 D.data.length d1, .slice b2 D.ents.length d2, .slice b3 D.attrs.length d3] 68)).heap.size) (Nat.le_refl _) (by simp)
  obtain ⟨t0, t1, t2, t3, t4, t5⟩ := z3.six
  have fz0 := z3.frozen 0
  have fz1 := z3.frozen 1
  have fz2 := z3.frozen 2
  have fz3 := z3.frozen 3
  have fz4 := z3.frozen 4
  have fz5 := z3.frozen 5
  obtain ⟨x0, x1, x2, x3, x4, x5⟩ := zX.six
  obtain ⟨W3, hW3⟩ : ∃ W, w2.alloc (.cells #[.int .i64 D.ino, .int .i64 D.kind, .int .i64 D.links, .slice b1 D.data.length d1, .slice b2 D.ents.length d2, .slice b3 D.attrs.length d3] 68) = W := ⟨_, rfl⟩
  have HZ3 : Hid _ := z3
  have HB3 : Hid _ := hb3
  have HG3 : Hid _ := g3
  rw [hW3] at HZ3 HB3 HG3 t0 t1 t2 t3 t4 t5 fz0 fz1 fz2 fz3 fz4 fz5 x0 x1 x2 x3 x4 x5
  have hfin : Hid ((if c = 0 ∧ D.kind = 1 then (inoZ.D, (3 : Int)) else (D, c)) = (D, c) → P (.returned (.tuple #[.agg #[.int .i64 D.ino, .int .i64 D.kind, .int .i64 D.links, .slice b1 D.data.length d1, .slice b2 D.ents.length d2, .slice b3 D.attrs.length d3], errV c])) ((((((W3.setCell ⟨w.heap.size + 1, 0, none⟩ (.int .i64 D.ino)).setCell ⟨w.heap.size + 1, 1, none⟩ (.int .i64 D.kind)).setCell ⟨w.heap.size + 1, 2, none⟩ (.int .i64 D.links)).setCell ⟨w.heap.size + 1, 3, none⟩ (.slice b1 D.data.length d1)).setCell ⟨w.heap.size + 1, 4, none⟩ (.slice b2 D.ents.length d2)).setCell ⟨w.heap.size + 1, 5, none⟩ (.slice b3 D.attrs.length d3))) := fun h => by
    have hf := at_stored HB3.out HG3.out HZ3.out hs1 (.int .i64 D.ino) (.int .i64 D.kind) (.int .i64 D.links) (.slice b1 D.data.length d1) (.slice b2 D.ents.length d2) (.slice b3 D.attrs.length d3)
    exact hp.out _ _ _ _ h ⟨b1, d1, b2, d2, b3, d3, rfl, hf.1, hf.2⟩
  have HF : Hid _ := blk6 HZ3.out (.int .i64 D.ino) (.int .i64 D.kind) (.int .i64 D.links) (.slice b1 D.data.length d1) (.slice b2 D.ents.length d2) (.slice b3 D.attrs.length d3)
  clear z3 hb3 g3 zr hb2 g2 bb2 zX zR B0
  by_cases hc0 : c = 0
  · subst hc0
    rw [errV_zero]
    by_cases hk : D.kind = 1
    · have hkb : (D.kind == 1) = true := by simp [hk]
      have HE : Hid ((if (0 : Int) = 0 ∧ D.kind = 1 then (inoZ.D, (3 : Int)) else (D, 0)) = (inoZ.D, 3)) := if_pos ⟨rfl, hk⟩
      have HEE : Hid _ := HE
      clear hk
      go_wp2
      have zf := blk6 HZ3.out (.int .i64 0) (.int .i64 0) (.int .i64 0) (.slice none 0 0) (.slice none 0 0) (.slice none 0 0)
      obtain ⟨dd0, dd1, dd2, dd3, dd4, dd5⟩ := zf.six
      refine bodyPost_ret (v := .tuple #[.agg #[.int .i64 0, .int .i64 0, .int .i64 0, .slice none 0 0, .slice none 0 0, .slice none 0 0], .iface 155 (.int .i64 3)]) (by simp [results, Tryz.f224, go_sem, dd0, dd1, dd2, dd3, dd4, dd5]) rfl ?_
      exact hp.out _ _ _ _ HEE.out (eStat_zero rfl (at_stored HB3.out (inoG_zero W3 (w.heap.size + 1 + 1) W3.heap.size) HZ3.out (Nat.lt_succ_self _) _ _ _ _ _ _).2)
    · have hkb : (D.kind == 1) = false := by simpa using hk
      have HE : Hid _ := hfin.out (if_neg (by simp [hk]))
      clear hk
      go_wp2
      obtain ⟨dd0, dd1, dd2, dd3, dd4, dd5⟩ := Blk.six HF.out
      refine bodyPost_ret (v := .tuple #[.agg #[.int .i64 D.ino, .int .i64 D.kind, .int .i64 D.links, .slice b1 D.data.length d1, .slice b2 D.ents.length d2, .slice b3 D.attrs.length d3], .nilIface]) (by simp [results, Tryz.f224, go_sem, dd0, dd1, dd2, dd3, dd4, dd5]) rfl ?_
      exact HE.out
  · have HE : Hid _ := hfin.out (if_neg (by simp [hc0]))
    rw [errV_some hc0] at HE ⊢
    clear hc0
    go_wp2
    obtain ⟨dd0, dd1, dd2, dd3, dd4, dd5⟩ := Blk.six HF.out
    refine bodyPost_ret (v := .tuple #[.agg #[.int .i64 D.ino, .int .i64 D.kind, .int .i64 D.links, .slice b1 D.data.length d1, .slice b2 D.ents.length d2, .slice b3 D.attrs.length d3], .iface 155 (.int .i64 c)]) (by simp [results, Tryz.f224, go_sem, dd0, dd1, dd2, dd3, dd4, dd5]) rfl ?_
    exact HE.out
end

section
open Go.RowKit
theorem run_copy6 (w : World) (ty : TypeId) (g o dLen dCap : Nat) (a : Addr) (sLen sCap : Nat) (cur : Array Value) (t : TypeId) (cs : List Value) (m : Nat)
    (hg : w.heap[g]? = some (.cells cur t (0, 0))) (hm : Nat.min sLen dLen = m) (hn : cs.length = m * 6)
    (hsrc : ∀ j v, cs[j]? = some v → w.cell? (a.add j) = some v) (hfit : o + cs.length ≤ cur.size) (h1 : ∀ v ∈ cs, v.oneCell' = true) :
    (Builtin.copy_ #[26, 26] ty #[.slice (some ⟨g, o, none⟩) dLen dCap, .slice (some a) sLen sCap]).run Tryz.prog w =
      .ok (goInt m) (w.setRow g (cur.toList.take o ++ cs ++ cur.toList.drop (o + cs.length)).toArray) := by
  obtain ⟨ii, hii, zi0, zi1, zi2⟩ := info_parts Tryz.infoInode
  have hl := run_loadCells_list (P := Tryz.prog) w a cs hsrc
  have hst := run_storeCells_at Tryz.prog g o t cs 0 cur w hg (by simpa using hfit) h1
  rw [hn] at hl
  simp [Builtin.copy_, run_underlying Tryz.underlying26, Builtin.lenOf, Builtin.firstCells, sizeOf, typeInfo, hii, zi1, hm, hl, hst]
theorem wpList_copy_run (w : World) {ops : Array Oper} {rest : List Oper} {o : Oper} {a : Act} {Q : Exit → Act → World → Prop} (hgd : o.guard = none) (d s : Operand) (t t' : TypeId)
    (ho : o.op = .call { callee := .builtin .copy, args := #[d, s], argTypes := #[t, t'] }) (v u : Value) (hd : a.eval d = v) (hs : a.eval s = u) {v' : Value} {w' : World}
    (hr : (Builtin.copy_ #[t, t'] o.type #[v, u]).run Tryz.prog w = .ok v' w') (h : wpList Tryz.prog ops Q rest (a.put o.dst v') w') : wpList Tryz.prog ops Q (o :: rest) a w := by
  refine wpList_plain hgd fun K hK => ?_
  unfold Oper.wp execOp
  simp only [ho, resolve, invoke, builtin, Sem.run_bind, Sem.run_pure, Result.andThen_ok, List.map_toArray, List.map_cons, List.map_nil, hd, hs, hr]
  exact hK _ _ h
theorem step_copy_run {ops : Array Oper} {o : Oper} {a : Act} {w : World} {K : Act → World → Prop} {Q : Exit → Act → World → Prop} {E : Prop}
    (hg : o.guard = none) (d x : Operand) (dT sT : TypeId) (hop : o.op = Op.call { callee := Callee.builtin Builtin.copy, args := #[d, x], argTypes := #[dT, sT] })
    (v u : Value) (hd : a.eval d = v) (hx : a.eval x = u) {v' : Value} {w' : World} (hr : (Builtin.copy_ #[dT, sT] o.type #[v, u]).run Tryz.prog w = .ok v' w') (hK : K (a.put o.dst v') w') :
    if Region.wanted o (yielded ops a.tmps) = true then Oper.wp Tryz.prog o a w K Q else E := by
  have hw : Region.wanted o (yielded ops a.tmps) = true := by simp [Region.wanted, hg]
  rw [if_pos hw]
  unfold Oper.wp execOp
  simp only [hop, resolve, invoke, builtin, Sem.run_bind, Sem.run_pure, Result.andThen_ok, List.map_toArray, List.map_cons, List.map_nil, hd, hx, hr]
  exact hK
/-- A row of inodes without room, written out. -/
structure Full (w : World) (g n : Nat) (xs : List Value) : Prop where
  len : xs.length = n * 6
  blk : w.heap[g]? = some (.cells xs.toArray 68 (0, 0))
theorem full_of {B : Nat} {w : World} {g n : Nat} {xs : List Value} (h : w.ownsRow B 68 6 (.slice (some ⟨g, 0, none⟩) n n) n xs) : Full w g n xs := by
  rcases h.2 with ⟨h', _⟩ | ⟨g', c, cur, h', _, h3, _, _, h6, h7⟩
  · simp at h'
  · simp at h'
    obtain ⟨rfl, rfl⟩ := h'
    refine ⟨h.1, ?_⟩
    rw [List.take_of_length_le (by rw [Array.length_toList]; omega)] at h7
    rw [h3, ← h7]
theorem Full.cell {w : World} {g n : Nat} {xs : List Value} (h : Full w g n xs) (j : Nat) (u : Value) (hu : xs[j]? = some u) : w.cell? ⟨g, j, none⟩ = some u := by
  rw [cell_of_row w g j _ _ (0, 0) h.blk]
  simpa using hu
theorem Full.lt {w : World} {g n : Nat} {xs : List Value} (h : Full w g n xs) : g < w.heap.size := (Array.getElem?_eq_some_iff.1 h.blk).1
theorem zeroCells_size (z : Array Value) (n : Nat) : (Builtin.zeroCells z n).size = n * z.size := by simp [Builtin.zeroCells]
theorem gr_row (W : World) (g : Nat) (R : Array Value) : W.grownBy (W.setRow g R) (some g) := ⟨rfl, rfl, rfl, by simp, fun k _ hk => setRow_other W g k R (fun e => hk (by simp [e]))⟩
/-- What Insert answers. -/
def InsPost (w : World) (B n : Nat) (ys : List Value) (e : Ending) (w' : World) : Prop :=
  ∃ c, e = .returned (.slice (some ⟨w.heap.size, 0, none⟩) (n + 1) c) ∧ w'.ownsRow B 68 6 (.slice (some ⟨w.heap.size, 0, none⟩) (n + 1) c) (n + 1) ys ∧ Below w.heap.size w w'
set_option maxRecDepth 100000 in
set_option maxHeartbeats 4000000 in
theorem insert_end (B g n vb : Nat) (xs vs : List Value) (w : World) (hs : n ≤ 1048576) (hB : B ≤ w.heap.size) (hx : Full w g n xs) (hv : ∀ j u, vs[j]? = some u → w.cell? ⟨vb, j, none⟩ = some u) (hvl : vs.length = 6) (h1v : ∀ u ∈ vs, u.oneCell' = true) :
    Calls Tryz.prog 258 #[.slice (some ⟨g, 0, none⟩) n n, .int .i64 n, .slice (some ⟨vb, 0, none⟩) 1 1] w fun e w' => InsPost w B n (xs ++ vs) e w' := by
  obtain ⟨ii, hii, zi0, zi1, zi2⟩ := info_parts Tryz.infoInode
  have hgl := hx.lt
  have hsrc : Go.Src Tryz.prog ii.size 26 (.slice (some ⟨vb, 0, none⟩) 1 1) 1 vs w := Go.Src.ofSlice w Tryz.underlying26 ⟨vb, 0, none⟩ 1 1 vs (by rw [hvl, zi1]) (fun j u hj => by rw [Addr.add_lit, Nat.zero_add]; exact hv j u hj) h1v
  have hrun : ∀ ty, (Builtin.append_ #[26, 26] ty #[.slice (some ⟨g, 0, none⟩) n n, .slice (some ⟨vb, 0, none⟩) 1 1]).run Tryz.prog w = _ := fun ty => run_append_grow_src w 26 26 ty 68 ii _ Tryz.underlying26 hii zi0 (some ⟨g, 0, none⟩) n n xs (run_firstCells_some w.drew ii.size n ⟨g, 0, none⟩ n n xs (by rw [hx.len, zi1]) (fun j u hj => by rw [Addr.add_lit, Nat.zero_add]; exact hx.cell j u hj)) (.slice (some ⟨vb, 0, none⟩) 1 1) 1 vs hsrc (by omega) (by omega) (growslice_fits (by omega) (by rw [zi2]; omega))
  have hG := grownCap_ge w (n + 1) n 68
  have hG2 := grownCap_le_maxLen w (n + 1) n 68 (by unfold maxLen; omega)
  obtain ⟨G, hGG⟩ : ∃ G, grownCap w (n + 1) n 68 = G := ⟨_, rfl⟩
  rw [hGG] at hrun hG hG2
  have hlen : (xs ++ vs).length = (n + 1) * 6 := by rw [List.length_append, hx.len, hvl]; omega
  have hfin : Hid (InsPost w B n (xs ++ vs) (.returned (.slice (some ⟨w.heap.size, 0, none⟩) (n + 1) G)) (w.drew.alloc (.cells ((xs ++ vs).toArray ++ Builtin.zeroCells (Value.agg #[.int .i64 0, .int .i64 0, .int .i64 0, .slice none 0 0, .slice none 0 0, .slice none 0 0]).cells (G - (n + 1))) 68))) := by
    refine ⟨G, rfl, ⟨hlen, .inr ⟨w.heap.size, G, _, rfl, hB, heap_alloc_new w.drew _, hG, hG2, ?_, ?_⟩⟩, (Below.refl _ w).drew.alloc (Nat.le_refl _) _⟩
    · rw [Array.size_append, zeroCells_size, List.size_toArray, hlen]
      simp [Value.cells]
      omega
    · rw [← hlen, Array.toList_append, List.take_left' (by simp)]
  clear hG hG2 hlen hsrc hx hv
  have hn0 : (0 : Int) ≤ (n : Int) := by omega
  have hnn : (n : Int) ≤ (n : Int) := Int.le_refl _
  go_enter Tryz.func258, Tryz.ntmps258
  go_wp2_with (at_builtin; refine Lib.wpList_append_run _ rfl _ _ _ _ rfl _ _ rfl rfl _ _ (hrun _) ?_)
  go_ret
  exact hfin.out
set_option maxRecDepth 100000 in
set_option maxHeartbeats 4000000 in
theorem insert_mid (B g n vb k : Nat) (xs vs : List Value) (w : World) (hk : k < n) (hs : n ≤ 1048576) (hB : B ≤ w.heap.size) (hx : Full w g n xs) (hv : ∀ j u, vs[j]? = some u → w.cell? ⟨vb, j, none⟩ = some u) (hvl : vs.length = 6) (h1x : ∀ u ∈ xs, u.oneCell' = true) (h1v : ∀ u ∈ vs, u.oneCell' = true) (hvb : vb < w.heap.size) :
    Calls Tryz.prog 258 #[.slice (some ⟨g, 0, none⟩) n n, .int .i64 k, .slice (some ⟨vb, 0, none⟩) 1 1] w fun e w' => InsPost w B n (xs.take (k * 6) ++ vs ++ xs.drop (k * 6)) e w' := by
  obtain ⟨ii, hii, zi0, zi1, zi2⟩ := info_parts Tryz.infoInode
  have hgl := hx.lt
  have hlx := hx.len
  have hik : k + (n + 1 - k) = n + 1 := by omega
  have hold : (Builtin.firstCells ii.size k (.slice (some ⟨g, 0, none⟩) k n)).run Tryz.prog w.drew = .ok (xs.take (k * 6)).toArray w.drew :=
    run_firstCells_some w.drew ii.size k ⟨g, 0, none⟩ k n (xs.take (k * 6)) (by rw [List.length_take, hlx, zi1]; omega) (fun j u hj => by
      rw [Addr.add_lit, Nat.zero_add]
      rw [List.getElem?_take] at hj
      split at hj
      · exact hx.cell j u hj
      · cases hj)
  have hrz : ∀ ty, (Builtin.append_ #[26, 3] ty #[.slice (some ⟨g, 0, none⟩) k n, .int .i64 ((n : Int) + 1 - (k : Int))]).run Tryz.prog w = .ok (.slice (some ⟨w.heap.size, 0, none⟩) (n + 1) (grownCap w (n + 1) n 68)) (w.drew.alloc (.cells ((xs.take (k * 6)).toArray ++ Builtin.zeroCells (Value.agg #[.int .i64 0, .int .i64 0, .int .i64 0, .slice none 0 0, .slice none 0 0, .slice none 0 0]).cells (n + 1 - k) ++ Builtin.zeroCells (Value.agg #[.int .i64 0, .int .i64 0, .int .i64 0, .slice none 0 0, .slice none 0 0, .slice none 0 0]).cells (grownCap w (n + 1) n 68 - (n + 1))) 68)) := fun ty => by
    have h := Lib.run_append_grow_zeros w 26 3 ty 68 ii _ .i64 .i64 Tryz.underlying26 Tryz.underlying3 hii zi0 (some ⟨g, 0, none⟩) k n (xs.take (k * 6)) hold (n + 1 - k) (by omega) (by omega) (by omega) (by omega) (by rw [zi2]; omega) (by rw [zi2, hik]; exact growslice_fits (by omega) (by omega))
    rw [hik] at h
    rw [show (n : Int) + 1 - (k : Int) = ((n + 1 - k : Nat) : Int) by omega]
    exact h
  have hG := grownCap_ge w (n + 1) n 68
  have hG2 := grownCap_le_maxLen w (n + 1) n 68 (by unfold maxLen; omega)
  obtain ⟨G, hGG⟩ : ∃ G, grownCap w (n + 1) n 68 = G := ⟨_, rfl⟩
  rw [hGG] at hrz hG hG2
  obtain ⟨R1, hR1⟩ : ∃ R, (xs.take (k * 6)).toArray ++ Builtin.zeroCells (Value.agg #[.int .i64 0, .int .i64 0, .int .i64 0, .slice none 0 0, .slice none 0 0, .slice none 0 0]).cells (n + 1 - k) ++ Builtin.zeroCells (Value.agg #[.int .i64 0, .int .i64 0, .int .i64 0, .slice none 0 0, .slice none 0 0, .slice none 0 0]).cells (G - (n + 1)) = R := ⟨_, rfl⟩
  rw [hR1] at hrz
  have hs1 : R1.size = G * 6 := by
    rw [← hR1, Array.size_append, Array.size_append, zeroCells_size, zeroCells_size, List.size_toArray, List.length_take, hlx]
    simp [Value.cells]
    omega
  have ht1 : R1.toList.take (k * 6) = xs.take (k * 6) := by
    rw [← hR1]
    simp only [Array.toList_append, List.append_assoc]
    rw [List.take_left' (by simp; omega)]
  obtain ⟨W1, hW1⟩ : ∃ W, w.drew.alloc (.cells R1 68) = W := ⟨_, rfl⟩
  have hb1 : Below w.heap.size w W1 := by rw [← hW1]; exact (Below.refl _ w).drew.alloc (Nat.le_refl _) _
  have g1 : W1.heap[w.heap.size]? = some (.cells R1 68 (0, 0)) := by rw [← hW1]; exact heap_alloc_new w.drew _
  rw [hW1] at hrz
  have c1 : ∀ ty dc, (Builtin.copy_ #[26, 26] ty #[.slice (some ⟨w.heap.size, k * 6, none⟩) (n + 1 - k) dc, .slice (some ⟨vb, 0, none⟩) 1 1]).run Tryz.prog W1 = _ := fun ty dc => run_copy6 W1 ty w.heap.size (k * 6) (n + 1 - k) dc ⟨vb, 0, none⟩ 1 1 R1 _ vs 1 g1 (by simp only [Nat.min_def]; split <;> omega) (by omega) (fun j u hj => by rw [Addr.add_lit, Nat.zero_add]; exact (hb1.cell (p := ⟨vb, j, none⟩) hvb).trans (hv j u hj)) (by omega) h1v
  obtain ⟨R2, hR2⟩ : ∃ R, (R1.toList.take (k * 6) ++ vs ++ R1.toList.drop (k * 6 + vs.length)).toArray = R := ⟨_, rfl⟩
  rw [hR2] at c1
  have hs2 : R2.size = G * 6 := by
    rw [← hR2]
    simp
    omega
  have ht2 : R2.toList.take ((k + 1) * 6) = xs.take (k * 6) ++ vs := by
    rw [← hR2, ht1]
    dsimp only
    rw [List.take_left' (by rw [List.length_append, List.length_take, hlx]; omega)]
  have g2 : (W1.setRow w.heap.size R2).heap[w.heap.size]? = some (.cells R2 68 (0, 0)) := setRow_heap W1 w.heap.size R1 R2 _ _ g1
  have hb2 : Below w.heap.size w (W1.setRow w.heap.size R2) := hb1.grown (w' := W1.setRow w.heap.size R2) (gr_row W1 w.heap.size R2) hb1.size (fun m hm => by simp at hm; omega) --⟨rfl, rfl, rfl, by simp, fun k _ hk => setRow_other W1 w.heap.size k _ (fun e => hk (by simp [e]))⟩ hb1.size (fun m hm => by simp at hm; omega)
  obtain ⟨W2, hW2⟩ : ∃ W, W1.setRow w.heap.size R2 = W := ⟨_, rfl⟩
  rw [hW2] at c1 g2 hb2
  have c2 : ∀ ty dc sc, (Builtin.copy_ #[26, 26] ty #[.slice (some ⟨w.heap.size, (k + 1) * 6, none⟩) (n + 1 - (k + 1)) dc, .slice (some ⟨g, k * 6, none⟩) (n - k) sc]).run Tryz.prog W2.drew = _ := fun ty dc sc => run_copy6 W2.drew ty w.heap.size ((k + 1) * 6) (n + 1 - (k + 1)) dc ⟨g, k * 6, none⟩ (n - k) sc R2 _ (xs.drop (k * 6)) (n - k) g2 (by simp only [Nat.min_def]; split <;> omega) (by rw [List.length_drop, hlx]; omega) (fun j u hj => by
      rw [Addr.add_lit]
      refine (hb2.cell (p := ⟨g, k * 6 + j, none⟩) hgl).trans (hx.cell _ u ?_)
      rwa [List.getElem?_drop] at hj) (by rw [List.length_drop, hlx]; omega) (fun u hu => h1x u (List.mem_of_mem_drop hu))
  obtain ⟨R3, hR3⟩ : ∃ R, (R2.toList.take ((k + 1) * 6) ++ xs.drop (k * 6) ++ R2.toList.drop ((k + 1) * 6 + (xs.drop (k * 6)).length)).toArray = R := ⟨_, rfl⟩
  rw [hR3] at c2
  have hs3 : R3.size = G * 6 := by
    rw [← hR3]
    simp [hlx]
    omega
  have hlen : (xs.take (k * 6) ++ vs ++ xs.drop (k * 6)).length = (n + 1) * 6 := by
    simp [hlx]
    omega
  have ht3 : R3.toList.take ((n + 1) * 6) = xs.take (k * 6) ++ vs ++ xs.drop (k * 6) := by
    rw [← hR3, ht2]
    dsimp only
    rw [List.take_left' hlen]
  have hfin : Hid (InsPost w B n (xs.take (k * 6) ++ vs ++ xs.drop (k * 6)) (.returned (.slice (some ⟨w.heap.size, 0, none⟩) (n + 1) G)) (W2.drew.setRow w.heap.size R3)) := by
    refine ⟨G, rfl, ⟨hlen, .inr ⟨w.heap.size, G, R3, rfl, hB, setRow_heap W2.drew w.heap.size R2 R3 _ _ g2, hG, hG2, hs3, ht3⟩⟩, ?_⟩
    exact hb2.drew.grown (gr_row W2.drew w.heap.size R3) hb2.size (fun m hm => by simp at hm; omega)
  have hn1 : ¬ (k : Int) = (n : Int) := by omega
  have hn2 : (n : Int) < (n : Int) + 1 := by omega
  have hkn : (k : Int) ≤ (n : Int) := by omega
  have hk0 : (0 : Int) ≤ (k : Int) := by omega
  have hGk : ¬ (G = k) := by omega
  have hGk1 : ¬ (G = k + 1) := by omega
  have hnk : ¬ (n = k) := by omega
  have hnk2 : (k : Int) ≤ (n : Int) + 1 := by omega
  have hw1 : IntKind.i64.wrap ((k : Int) + 1) = (k : Int) + 1 := by rw [IntKind.wrap_i64]; omega
  have hw2 : (0 : Int) ≤ (k : Int) + 1 := by omega
  have hw3 : (k : Int) + 1 ≤ (n : Int) + 1 := by omega
  have hw4 : ((k : Int) + 1).toNat = k + 1 := by omega
  clear hG2 hold hR1 hs1 ht1 hb1 g1 hR2 hs2 ht2 g2 hb2 hR3 hs3 ht3 hlen hx hv hW1 hW2 hGG h1x h1v
  unfold maxLen at *
  go_enter Tryz.func258, Tryz.ntmps258
  go_wp2_with (first
    | (at_builtin; refine Lib.wpList_append_run _ rfl _ _ _ _ rfl _ _ rfl rfl _ _ (hrz _) ?_)
    | (at_builtin; refine wpList_copy_run _ rfl _ _ 26 26 rfl _ _ rfl rfl (c1 _ _) ?_))
  go_region_law (refine step_copy_run rfl _ _ 26 26 rfl (.slice (some ⟨w.heap.size, (k + 1) * 6, none⟩) (n + 1 - (k + 1)) (G - (k + 1))) (.slice (some ⟨g, k * 6, none⟩) (n - k) (n - k)) (by simp [Act.eval, Act.put]) (by simp [Act.eval, Act.put]) (c2 _ (G - (k + 1)) (n - k)) ?_)
  all_goals go_wp2
  all_goals go_ret
  all_goals exact hfin.out
/-- One inode put in. -/
theorem insert_any (B g n vb k : Nat) (xs vs : List Value) (w : World) (hk : k ≤ n) (hs : n ≤ 1048576) (hB : B ≤ w.heap.size) (hx : w.ownsRow B 68 6 (.slice (some ⟨g, 0, none⟩) n n) n xs) (hv : ∀ j u, vs[j]? = some u → w.cell? ⟨vb, j, none⟩ = some u) (hvl : vs.length = 6) (h1x : ∀ u ∈ xs, u.oneCell' = true) (h1v : ∀ u ∈ vs, u.oneCell' = true) (hvb : vb < w.heap.size) :
    Calls Tryz.prog 258 #[.slice (some ⟨g, 0, none⟩) n n, .int .i64 k, .slice (some ⟨vb, 0, none⟩) 1 1] w fun e w' => InsPost w B n (xs.take (k * 6) ++ vs ++ xs.drop (k * 6)) e w' := by
  rcases Nat.lt_or_eq_of_le hk with h | rfl
  · exact insert_mid B g n vb k xs vs w h hs hB (full_of hx) hv hvl h1x h1v hvb
  · have := insert_end B g k vb xs vs w hs hB (full_of hx) hv hvl h1v
    have hl := hx.1
    rw [List.take_of_length_le (by omega), List.drop_of_length_le (by omega), List.append_nil]
    exact this
end

section
open Go.RowKit
/-- The place, or -1. -/
def idxN (rs : List InoR) (x : Int) : Int := if placeOf rs x < rs.length then (placeOf rs x : Int) else -1
set_option maxHeartbeats 1600000 in
theorem clos_any (D : InoD) (a1 a2 a3 : Option Addr) (c1 c2 c3 : Nat) (x : Int) (X : Nat) (w : World) (hX : w.cell? ⟨X, 0, none⟩ = some (.int .i64 x)) :
    Calls Tryz.prog 257 #[.agg #[.int .i64 D.ino, .int .i64 D.kind, .int .i64 D.links, .slice a1 D.data.length c1, .slice a2 D.ents.length c2, .slice a3 D.attrs.length c3], .pointer (some ⟨X, 0, none⟩)] w fun e w' => e = .returned (.bool (decide (x < D.ino))) ∧ Below w.heap.size w w' := by
  have hlt := World.block_lt_of_cell? w _ hX
  have b0 : Below w.heap.size w (w.alloc (.cells #[.int .i64 D.ino, .int .i64 D.kind, .int .i64 D.links, .slice a1 D.data.length c1, .slice a2 D.ents.length c2, .slice a3 D.attrs.length c3] 68)) := (Below.refl _ w).alloc (Nat.le_refl _) _
  have hX' := (b0.cell (p := ⟨X, 0, none⟩) hlt).trans hX
  have z0 := (Blk.new w 68 #[.int .i64 D.ino, .int .i64 D.kind, .int .i64 D.links, .slice a1 D.data.length c1, .slice a2 D.ents.length c2, .slice a3 D.attrs.length c3]).cell 0
  simp at z0
  have HB : Hid _ := b0
  clear hX b0
  by_cases hx : x < D.ino
  · have hd : decide (x < D.ino) = true := by simpa using hx
    rw [hd]
    go_enter Tryz.func257, Tryz.ntmps257
    go_wp2
    go_ret
    exact ⟨by simp_all, HB.out⟩
  · have hd : decide (x < D.ino) = false := by simpa using hx
    rw [hd]
    go_enter Tryz.func257, Tryz.ntmps257
    go_wp2
    go_ret
    exact ⟨by simp_all, HB.out⟩
set_option maxRecDepth 100000 in
set_option maxHeartbeats 2000000 in
theorem indexFunc_any (a : Option Addr) (n cap : Nat) (rs : List InoR) (x : Int) (X : Nat) (w : World) (hn : rs.length = n) (hs : n ≤ 4000000) (hr : RdI w a rs) (hX : w.cell? ⟨X, 0, none⟩ = some (.int .i64 x)) :
    Calls Tryz.prog 256 #[.slice a n cap, .func (.func 257) #[] #[.pointer (some ⟨X, 0, none⟩)]] w fun e w' => e = .returned (.int .i64 (idxN rs x)) ∧ Below w.heap.size w w' := by
  have hXlt := World.block_lt_of_cell? w _ hX
  have HR : Hid _ := hr
  have HX : Hid _ := hX
  have hn' : Hid (rs.length = n) := hn
  have hY : Hid (∀ (k : Nat) (r : InoR), (∀ (j : Nat) (q : InoR), j < k → rs[j]? = some q → q.D.ino ≤ x) → rs[k]? = some r → x < r.D.ino → (k : Int) = idxN rs x) := by
    intro k r h hk he
    unfold idxN
    rw [placeOf_is hk he (fun j q hj hq => Int.not_lt.2 (h j q hj hq)), if_pos (List.getElem?_eq_some_iff.1 hk).1]
  have hE : Hid ((∀ (j : Nat) (q : InoR), j < n → rs[j]? = some q → q.D.ino ≤ x) → (-1 : Int) = idxN rs x) := by
    intro h
    unfold idxN
    rw [placeOf_end (fun j q hq => Int.not_lt.2 (h j q (by rw [← hn]; exact (List.getElem?_eq_some_iff.1 hq).1) hq)), if_neg (by omega)]
  generalize idxN rs x = R at hY hE ⊢
  clear hr hn hX
  go_enter Tryz.func256, Tryz.ntmps256
  go_wp2
  go_loopw [8] (fun i wr => ∃ k : Nat, k ≤ n ∧ i = .int .i64 k ∧ Hid (∀ (j : Nat) (q : InoR), j < k → rs[j]? = some q → q.D.ino ≤ x) ∧ Below w.heap.size w wr) (fun i _ => n - (intOf i).toNat)
  case atStart => exact ⟨0, Nat.zero_le _, rfl, fun j q hj => by omega, Below.refl _ _⟩
  case round =>
    obtain ⟨k, hk, rfl, hall, hB⟩ := hrel
    by_cases hkn : k < n
    · have hki : (k : Int) < (n : Int) := by omega
      obtain ⟨r, hrk⟩ : ∃ r, rs[k]? = some r := ⟨_, List.getElem?_eq_getElem (by rw [hn'.out]; exact hkn)⟩
      obtain ⟨b, off, rfl, hlt, hc⟩ := (RdI.keep HR.out hB).lt (by intro h; have := hn'.out; rw [h] at this; simp at this; omega)
      obtain ⟨⟨x0, x1, x2, x3, x4, x5⟩, _⟩ := hc k r hrk
      have hcc := clos_any r.D r.a1 r.a2 r.a3 r.c1 r.c2 r.c3 x X wr ((hB.cell (p := ⟨X, 0, none⟩) hXlt).trans HX.out)
      have hyes : Hid (x < r.D.ino → (k : Int) = R) := fun he => hY.out k r hall.out hrk he
      have hno : Hid (¬ x < r.D.ino → ∀ (j : Nat) (q : InoR), j < k + 1 → rs[j]? = some q → q.D.ino ≤ x) := by
        intro he j q hj hq
        rcases (show j < k ∨ j = k by omega) with h | rfl
        · exact hall.out j q h hq
        · rw [hrk] at hq
          simp at hq
          rw [← hq]
          exact Int.not_lt.1 he
      clear hc hrk hall hY hE HR HX
      by_cases he : x < r.D.ino
      · have hd : decide (x < r.D.ino) = true := by simpa using he
        rw [hd] at hcc
        have hend : Hid ((k : Int) = R) := hyes.out he
        clear hyes hno hd he
        go_wp2_with (go_at_call 257; (with_reducible refine hcc.mono ?_); rintro e w1 ⟨rfl, b1⟩)
        go_ret
        exact ⟨ret_int hend.out, hB.trans (b1.mono hB.size)⟩
      · have hd : decide (x < r.D.ino) = false := by simpa using he
        rw [hd] at hcc
        have hnx : Hid _ := hno.out he
        clear hyes hno hd he
        go_wp2_with (go_at_call 257; (with_reducible refine hcc.mono ?_); rintro e w1 ⟨rfl, b1⟩)
        go_roundw
        case rel => exact ⟨k + 1, by omega, by go_num, hnx, hB.trans (b1.mono hB.size)⟩
        case measure => simp [intOf]; omega
    · have hki : ¬ (k : Int) < (n : Int) := by omega
      have hend : Hid ((-1 : Int) = R) := hE.out (fun j q hj hq => hall.out j q (by omega) hq)
      clear hY hE HR hall HX
      go_wp2
      go_ret
      exact ⟨ret_int hend.out, hB⟩
end
end Go.Proofs.YtmfimoccemgoiaaGreatDoor
