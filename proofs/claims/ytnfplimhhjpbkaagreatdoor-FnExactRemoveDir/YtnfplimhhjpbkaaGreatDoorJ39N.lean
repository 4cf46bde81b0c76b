/-
  Joined: Drop6, Unlink6, Draw, TruncI.
-/
import Derived.Test.YtnfplimhhjpbkaaGreatDoorJ38N
import Derived.Laws.BitsLemmas
namespace Go.Proofs.YtnfplimhhjpbkaaGreatDoor
section
open Go.RowKit
/-- A table without an entry. -/
def dropP (ds : List InoD) (s : ByteArray) : List InoD := setD ds { (statD ds (strB (parentOf s.data.toList).1)).1 with ents := cutE (statD ds (strB (parentOf s.data.toList).1)).1.ents (strB (parentOf s.data.toList).2.1) }
theorem cutE_small {D : InoD} (h : InoSmall D) (nm : ByteArray) : InoSmall { D with ents := cutE D.ents nm } := by
  refine ⟨h.data, ?_, h.attrs, fun q hq => h.entsz q (List.mem_filter.1 hq).1, h.attrsz⟩
  exact Nat.le_trans (List.length_filter_le _ _) h.ents
set_option maxRecDepth 100000 in
set_option maxHeartbeats 8000000 in
theorem dropPS (a : Option Addr) (n cap : Nat) (nx : Int) (rs : List InoR) (s : ByteArray) (w : World) (ht : TR w a n rs) (hs : s.size ≤ 4000000) :
    Calls Tryz.prog 101 #[.agg #[.slice a n cap, .int .i64 nx], .string s] w fun e w' => ∃ v, e = .returned v ∧ TabAt w nx (dropP (rs.map InoR.D) s) v w' := by
  have B0 : Below w.heap.size w ((w.alloc (.cells #[.slice a n cap, .int .i64 nx] 26)).alloc (.cells #[.slice none 0 0, .int .i64 0] 26)) := ((Below.refl _ w).alloc (Nat.le_refl _) _).alloc (by simp) _
  have zT : Blk ((w.alloc (.cells #[.slice a n cap, .int .i64 nx] 26)).alloc (.cells #[.slice none 0 0, .int .i64 0] 26)) w.heap.size 26 #[.slice a n cap, .int .i64 nx] := (Blk.new w _ _).alloc _
  have zR := Blk.new (w.alloc (.cells #[.slice a n cap, .int .i64 nx] 26)) 26 #[.slice none 0 0, .int .i64 0]
  simp only [World.size_alloc] at zR
  obtain ⟨ds, hds⟩ : ∃ ds, rs.map InoR.D = ds := ⟨_, rfl⟩
  rw [hds]
  have HDS : Hid _ := hds
  have HT : Hid _ := ht
  have HSm : Hid (∀ F ∈ ds, InoSmall F) := by
    intro F hF
    exact ht.smallD F (by rw [hds]; exact hF)
  have hn1 := ht.n
  obtain ⟨R, hR⟩ : ∃ R, dropP ds s = R := ⟨_, rfl⟩
  rw [hR]
  unfold dropP at hR
  have hps := parent_small s.data.toList
  go_enter Tryz.func101, Tryz.ntmps101
  go_wp2_with fail
  obtain ⟨W0, hW0⟩ : ∃ W, (w.alloc (.cells #[.slice a n cap, .int .i64 nx] 26)).alloc (.cells #[.slice none 0 0, .int .i64 0] 26) = W := ⟨_, rfl⟩
  rw [hW0] at B0 zT zR ⊢
  clear hW0 ht hds
  refine (parentS s W0 hs).mono ?_
  rintro e w1 ⟨bb1, rfl⟩
  obtain ⟨P1, P2, P3, hP⟩ : ∃ P1 P2 P3, parentOf s.data.toList = (P1, P2, P3) := ⟨_, _, _, rfl⟩
  rw [hP] at hR hps ⊢
  dsimp only at hR hps ⊢
  have hB1 := B0.trans (bb1.mono B0.size)
  have zr1 := zR.keep bb1
  have zt1 := zT.keep bb1
  have t0 := zt1.cell 0
  have t1 := zt1.cell 1
  simp at t0 t1
  have hcS := statS a n cap nx rs (strB P1) w1 (HT.out.keep hB1) (by rw [strB_size]; omega)
  rw [HDS.out] at hcS
  have hsm : InoSmall (statD ds (strB P1)).1 := statD_small HSm.out
  obtain ⟨D, c, hDc⟩ : ∃ D c, statD ds (strB P1) = (D, c) := ⟨_, _, rfl⟩
  rw [hDc] at hR hcS hsm
  dsimp only at hR hcS hsm
  have hrl : w.heap.size + 1 < w1.heap.size := zr1.lt
  clear B0 zR zT bb1 hP hDc
  go_wp2_with fail
  (with_reducible refine hcS.mono ?_)
  rintro e w2 ⟨b1, d1, b2, d2, b3, d3, rfl, g2, bb2⟩
  clear hcS t0 t1
  have hs12 := bb2.size
  have zr3 := (zr1.keep bb2).alloc (.cells #[.int .i64 D.ino, .int .i64 D.kind, .int .i64 D.links, .slice b1 D.data.length d1, .slice b2 D.ents.length d2, .slice b3 D.attrs.length d3] 66)
  have zt3 := (zt1.keep bb2).alloc (.cells #[.int .i64 D.ino, .int .i64 D.kind, .int .i64 D.links, .slice b1 D.data.length d1, .slice b2 D.ents.length d2, .slice b3 D.attrs.length d3] 66)
  have hb2 := hB1.trans (bb2.mono hB1.size)
  have hb3 := hb2.alloc hb2.size (.cells #[.int .i64 D.ino, .int .i64 D.kind, .int .i64 D.links, .slice b1 D.data.length d1, .slice b2 D.ents.length d2, .slice b3 D.attrs.length d3] 66)
  have zX := Blk.new w2 66 #[.int .i64 D.ino, .int .i64 D.kind, .int .i64 D.links, .slice b1 D.data.length d1, .slice b2 D.ents.length d2, .slice b3 D.attrs.length d3]
  have g3 := g2.keep (Nat.le_refl _) ((Below.refl _ w2).alloc (Nat.le_refl _) (.cells #[.int .i64 D.ino, .int .i64 D.kind, .int .i64 D.links, .slice b1 D.data.length d1, .slice b2 D.ents.length d2, .slice b3 D.attrs.length d3] 66))
  have hlt : w2.heap.size < (w2.alloc (.cells #[.int .i64 D.ino, .int .i64 D.kind, .int .i64 D.links, .slice b1 D.data.length d1, .slice b2 D.ents.length d2, .slice b3 D.attrs.length d3] 66)).heap.size := by simp
  obtain ⟨W3, hW3⟩ : ∃ W, w2.alloc (.cells #[.int .i64 D.ino, .int .i64 D.kind, .int .i64 D.links, .slice b1 D.data.length d1, .slice b2 D.ents.length d2, .slice b3 D.attrs.length d3] 66) = W := ⟨_, rfl⟩
  rw [hW3] at zr3 zt3 hb3 zX g3 hlt
  have x4 := zX.cell 4
  simp at x4
  have hcC := l6CutS b2 D.ents.length d2 D.ents (strB P2) W3 rfl hsm.ents g3.rds.ents
  clear zr1 zt1 hB1 hb2 g2 bb2
  go_wp2_with fail
  (with_reducible refine hcC.mono ?_)
  rintro e w5 ⟨g5, c5, rfl, o5, b6⟩
  clear hcC x4
  have x4 := (zX.keep b6).cell 4
  have xf := (zX.keep b6).frozen 4
  simp at x4
  have hs56 := b6.size
  have hg5 := (World.ownsRow.lt o5 g5 rfl).1
  have gX := gr_setC w5 w2.heap.size 4 (.slice (some ⟨g5, 0, none⟩) (cutE D.ents (strB P2)).length c5)
  have zX6 : Blk (w5.setCell ⟨w2.heap.size, 4, none⟩ (.slice (some ⟨g5, 0, none⟩) (cutE D.ents (strB P2)).length c5)) w2.heap.size 66 #[.int .i64 D.ino, .int .i64 D.kind, .int .i64 D.links, .slice b1 D.data.length d1, .slice (some ⟨g5, 0, none⟩) (cutE D.ents (strB P2)).length c5, .slice b3 D.attrs.length d3] := (zX.keep b6).set 4 _
  have zt6 := (zt3.keep b6).kept gX (by omega)
  have zr6 := (zr3.keep b6).kept gX (by omega)
  have o6 := row_kept o5 gX (fun z hz e => by simp [Value.ownBlock] at hz; simp at e; omega)
  have hG6 : InoG (w5.setCell ⟨w2.heap.size, 4, none⟩ (.slice (some ⟨g5, 0, none⟩) (cutE D.ents (strB P2)).length c5)) w1.heap.size w2.heap.size D (.slice b1 D.data.length d1) (.slice b2 D.ents.length d2) (.slice b3 D.attrs.length d3) := (g3.keep (by omega) b6).kept fun k h1 h2 => gX.block k (by omega) (by simp; omega)
  have hB6 : Below w.heap.size w (w5.setCell ⟨w2.heap.size, 4, none⟩ (.slice (some ⟨g5, 0, none⟩) (cutE D.ents (strB P2)).length c5)) := by
    have h2 := hb3.trans (b6.mono hb3.size)
    exact h2.setCell (p := ⟨w2.heap.size, 4, none⟩) (by show w.heap.size ≤ w2.heap.size; omega) _
  obtain ⟨E, hE⟩ : ∃ E, ({ D with ents := cutE D.ents (strB P2) } : InoD) = E := ⟨_, rfl⟩
  have hEl : E.ents.length = (cutE D.ents (strB P2)).length := by rw [← hE]
  have hEr : InoRd (w5.setCell ⟨w2.heap.size, 4, none⟩ (.slice (some ⟨g5, 0, none⟩) (cutE D.ents (strB P2)).length c5)) E b1 (some ⟨g5, 0, none⟩) b3 := by
    rw [← hE]
    exact ⟨hG6.rds.data, hG6.rds.byt, (show OwnP 86 _ g5 _ c5 _ from row_lower o6 (Nat.zero_le _)).rd, hG6.rds.attrs⟩
  have hEs : InoSmall E := by rw [← hE]; exact cutE_small hsm _
  have e1 : D.ino = E.ino ∧ D.kind = E.kind ∧ D.links = E.links ∧ D.data.length = E.data.length ∧ D.attrs.length = E.attrs.length := by rw [← hE]; exact ⟨rfl, rfl, rfl, rfl, rfl⟩
  have hcF := setT a n cap nx rs E b1 (some ⟨g5, 0, none⟩) b3 d1 c5 d3 (w5.setCell ⟨w2.heap.size, 4, none⟩ (.slice (some ⟨g5, 0, none⟩) (cutE D.ents (strB P2)).length c5)) (HT.out.keep hB6) hEs hEr
  rw [HDS.out, ← e1.1, ← e1.2.1, ← e1.2.2.1, ← e1.2.2.2.1, ← e1.2.2.2.2, hEl] at hcF
  have HRR : Hid (setD ds E = R) := by show _ = _; rw [← hR, hE]
  obtain ⟨y0, y1, y2, y3, y4, y5⟩ := zX6.six
  have t0 := zt6.cell 0
  have t1 := zt6.cell 1
  simp at t0 t1
  obtain ⟨W6, hW6⟩ : ∃ W, w5.setCell ⟨w2.heap.size, 4, none⟩ (.slice (some ⟨g5, 0, none⟩) (cutE D.ents (strB P2)).length c5) = W := ⟨_, rfl⟩
  rw [hW6] at hcF hB6 zr6 y0 y1 y2 y3 y4 y5 t0 t1
  have HZ6 : Hid _ := zr6
  have HB6 : Hid _ := hB6
  clear zX zt3 zr3 hb3 g3 o5 b6 gX zX6 zt6 zr6 o6 hG6 hB6 hE hEl hEr hEs e1 hR hsm
  go_wp2_with fail
  (with_reducible refine hcF.mono ?_)
  rintro e w7 ⟨v, rfl, b, cc, js, rfl, q7, b7⟩
  clear hcF t0 t1 y0 y1 y2 y3 y4 y5
  obtain ⟨m, hm⟩ : ∃ m, js.length = m := ⟨_, rfl⟩
  rw [hm] at q7 ⊢
  have z7 := Blk.keep HZ6.out b7
  have r0 := z7.cell 0
  have r1 := z7.cell 1
  have f0 := z7.frozen 0
  have f1 := z7.frozen 1
  simp at r0 r1
  have HQ : Hid _ := And.intro z7 (q7.boxed (HB6.out.trans (b7.mono HB6.out.size)) (R := w.heap.size + 1) (by omega) (Blk.lt HZ6.out) (.slice b m cc) (.int .i64 nx))
  clear z7 q7 b7
  go_wp2
  have zf := blk2 HQ.out.1 (.slice b m cc) (.int .i64 nx)
  have dd0 := zf.cell 0
  have dd1 := zf.cell 1
  simp at dd0 dd1
  refine bodyPost_ret (v := .agg #[.slice b m cc, .int .i64 nx]) (by simp [results, Tryz.f101, go_sem, dd0, dd1]) rfl ?_
  subst hm
  have h1 := HQ.out.2
  rw [HRR.out] at h1
  exact ⟨_, rfl, b, cc, js, rfl, h1.1, h1.2⟩
end

section
open Go.RowKit
theorem fileD_mem {ds : List InoD} {s : ByteArray} {D : InoD} (h : fileD ds s = (D, 0)) : D ∈ ds ∧ statD ds s = (D, 0) := by
  unfold fileD at h
  split at h
  · simp at h
  · exact ⟨statD_mem h, h⟩
/-- DropInode, with what is told of tables here. -/
theorem dropT (a : Option Addr) (n cap : Nat) (nx x : Int) (rs : List InoR) (w : World) (ht : TR w a n rs) :
    Calls Tryz.prog 102 #[.agg #[.slice a n cap, .int .i64 nx], .int .i64 x] w fun e w' => ∃ v, e = .returned v ∧ TabAt w nx (dropD (rs.map InoR.D) x) v w' :=
  (dropS a n cap nx x rs w ht.len ht.n ht.small ht.rd).mono fun e w' h => by
    have := DropPost.tab h
    rw [dropD_eq] at this
    exact this
theorem TabAt.trs {w V : World} {nx : Int} {ds : List InoD} {v : Value} (h : TabAt w nx ds v V) (hs : ∀ D ∈ ds, InoSmall D) (hl : ds.length ≤ 1048576) : ∃ a n c rs, v = .agg #[.slice a n c, .int .i64 nx] ∧ (∀ V', Below V.heap.size V V' → TR V' a n rs ∧ ∀ (X i : Nat) (u : Value), X < w.heap.size → TR (V'.setCell ⟨X, i, none⟩ u) a n rs) ∧ rs.map InoR.D = ds ∧ Below w.heap.size w V := by
  obtain ⟨a, c, js, rfl, hq, hb⟩ := h
  have h1 : (js.map InoJ.r).map InoR.D = ds := by rw [hq.ds, lift_map]
  have h2 : js.length = ds.length := by rw [← h1]; simp
  have hsm : ∀ r ∈ js.map InoJ.r, InoSmall r.D := fun r hr => hs r.D (by rw [← h1]; exact List.mem_map_of_mem hr)
  refine ⟨a, js.length, c, js.map InoJ.r, rfl, fun V' hV => ⟨⟨by simp, by omega, hsm, (hq.keep hV).rd rfl⟩, fun X i u hX => ⟨by simp, by omega, hsm, ((hq.keep hV).setX hX i u).rd rfl⟩⟩, h1, hb⟩
theorem TabAt.below {w V : World} {nx : Int} {ds : List InoD} {v : Value} (h : TabAt w nx ds v V) : Below w.heap.size w V := by
  obtain ⟨_, _, _, _, _, hb⟩ := h
  exact hb
theorem dropP_small {ds : List InoD} (h : ∀ E ∈ ds, InoSmall E) (s : ByteArray) : ∀ E ∈ dropP ds s, InoSmall E := setD_small h (cutE_small (statD_small h) _)
theorem dropP_len (ds : List InoD) (s : ByteArray) : (dropP ds s).length ≤ ds.length + 1 := setD_len _ _
def unlinkD (nx : Int) (ds : List InoD) (s : ByteArray) : List InoD × Int :=
  if treeD nx ds = false ∨ (parentOf s.data.toList).2.2 = false then (ds, 1)
  else if (fileD ds s).2 ≠ 0 then (ds, (fileD ds s).2)
  else if (fileD ds s).1.links = 1 then (dropD (dropP ds s) (fileD ds s).1.ino, 0)
  else (setD (dropP ds s) { (fileD ds s).1 with links := (fileD ds s).1.links - 1 }, 0)
def removeD (nx : Int) (ds : List InoD) (s : ByteArray) : List InoD × Int :=
  if treeD nx ds = false ∨ (parentOf s.data.toList).2.2 = false then (ds, 1)
  else if (statD ds s).2 ≠ 0 then (ds, (statD ds s).2)
  else if (statD ds s).1.kind ≠ 2 then (ds, 3)
  else if 0 < (statD ds s).1.ents.length then (ds, 6)
  else (dropD (dropP ds s) (statD ds s).1.ino, 0)
set_option maxRecDepth 100000 in
set_option maxHeartbeats 8000000 in
theorem unlinkS (a : Option Addr) (n cap : Nat) (nx : Int) (rs : List InoR) (s : ByteArray) (w : World) (ht : TR w a n rs) (hs : s.size ≤ 4000000) :
    Calls Tryz.prog 55 #[.agg #[.slice a n cap, .int .i64 nx], .string s] w fun e w' => TabC w nx (unlinkD nx (rs.map InoR.D) s).1 (unlinkD nx (rs.map InoR.D) s).2 e w' := by
  have B0 : Below w.heap.size w ((w.alloc (.cells #[.slice a n cap, .int .i64 nx] 26)).alloc (.cells #[.slice none 0 0, .int .i64 0] 26)) := ((Below.refl _ w).alloc (Nat.le_refl _) _).alloc (by simp) _
  have zT : Blk ((w.alloc (.cells #[.slice a n cap, .int .i64 nx] 26)).alloc (.cells #[.slice none 0 0, .int .i64 0] 26)) w.heap.size 26 #[.slice a n cap, .int .i64 nx] := (Blk.new w _ _).alloc _
  have zR := Blk.new (w.alloc (.cells #[.slice a n cap, .int .i64 nx] 26)) 26 #[.slice none 0 0, .int .i64 0]
  simp only [World.size_alloc] at zR
  obtain ⟨ds, hds⟩ : ∃ ds, rs.map InoR.D = ds := ⟨_, rfl⟩
  have hdn : ds.length = n := by rw [← hds, List.length_map, ht.len]
  have hp : Hid (∀ (e : Ending) (w' : World) (l : List InoD) (q : Int), unlinkD nx ds s = (l, q) → TabC w nx l q e w' → TabC w nx (unlinkD nx ds s).1 (unlinkD nx ds s).2 e w') := fun e w' l q h hh => by rw [h]; exact hh
  rw [hds]
  generalize TabC w nx (unlinkD nx ds s).1 (unlinkD nx ds s).2 = P at hp ⊢
  have hmd : unlinkD nx ds s = unlinkD nx ds s := rfl
  conv at hmd => rhs; unfold unlinkD
  have HDS : Hid _ := hds
  have HDN : Hid _ := hdn
  have HT : Hid _ := ht
  have HSm : Hid (∀ F ∈ ds, InoSmall F) := by
    intro F hF
    exact ht.smallD F (by rw [hds]; exact hF)
  have hn1 := ht.n
  have href : Hid (∀ (W : World) (q : Int), Below w.heap.size w W → Blk W (w.heap.size + 1) 26 #[.slice none 0 0, .int .i64 0] → unlinkD nx ds s = (ds, q) → Calls Tryz.prog 63 #[.agg #[.slice a n cap, .int .i64 nx]] W fun e V => ∃ (b : Option Addr) (m cc : Nat), e = .returned (.agg #[.slice b m cc, .int .i64 nx]) ∧ Blk V (w.heap.size + 1) 26 #[.slice none 0 0, .int .i64 0] ∧ P (.returned (.tuple #[.agg #[.slice b m cc, .int .i64 nx], .int .i64 q])) ((V.setCell ⟨w.heap.size + 1, 0, none⟩ (.slice b m cc)).setCell ⟨w.heap.size + 1, 1, none⟩ (.int .i64 nx))) := fun W q hb hz hq => by
    have hT := HT.out.keep hb
    refine (l4CopyS a n cap nx rs W hT.len hT.n hT.small hT.rd).mono fun e V h => ?_
    obtain ⟨b, m, cc, h1, h2, h3⟩ := copyC h hb (Nat.le_succ _) hz
    rw [HDS.out] at h3
    exact ⟨b, m, cc, h1, h2, hp.out _ _ _ _ hq (h3 q)⟩
  have hset : Hid (∀ (W V : World) (v : Value) (l : List InoD), TabAt W nx l v V → Below w.heap.size w W → Blk W (w.heap.size + 1) 26 #[.slice none 0 0, .int .i64 0] → unlinkD nx ds s = (l, 0) → ∃ (b : Option Addr) (m cc : Nat), v = .agg #[.slice b m cc, .int .i64 nx] ∧ Blk V (w.heap.size + 1) 26 #[.slice none 0 0, .int .i64 0] ∧ P (.returned (.tuple #[.agg #[.slice b m cc, .int .i64 nx], .int .i64 0])) ((V.setCell ⟨w.heap.size + 1, 0, none⟩ (.slice b m cc)).setCell ⟨w.heap.size + 1, 1, none⟩ (.int .i64 nx))) := fun W V v l h hb hz hq => by
    obtain ⟨b, cc, js, rfl, hQ, hbV⟩ := h
    refine ⟨b, js.length, cc, rfl, hz.keep hbV, hp.out _ _ _ _ hq ?_⟩
    have := hQ.boxed (hb.trans (hbV.mono hb.size)) (R := w.heap.size + 1) (by omega) hz.lt (.slice b js.length cc) (.int .i64 nx)
    exact ⟨b, cc, js, rfl, this.1, this.2⟩
  go_enter Tryz.func55, Tryz.ntmps55
  go_wp2_with fail
  obtain ⟨W0, hW0⟩ : ∃ W, (w.alloc (.cells #[.slice a n cap, .int .i64 nx] 26)).alloc (.cells #[.slice none 0 0, .int .i64 0] 26) = W := ⟨_, rfl⟩
  rw [hW0] at B0 zT zR ⊢
  clear hW0 ht hds hdn
  have hpp := parentS s W0 hs
  refine hpp.mono ?_
  rintro e w1 ⟨bb1, rfl⟩
  clear hpp
  obtain ⟨P1, P2, P3, hP⟩ : ∃ P1 P2 P3, parentOf s.data.toList = (P1, P2, P3) := ⟨_, _, _, rfl⟩
  rw [hP] at hmd ⊢
  dsimp only at hmd ⊢
  have hB1 := B0.trans (bb1.mono B0.size)
  have zr1 := zR.keep bb1
  have zt1 := zT.keep bb1
  have t0 := zt1.cell 0
  have t1 := zt1.cell 1
  simp at t0 t1
  have hcT := treeS a n cap nx rs w1 (HT.out.keep hB1)
  rw [HDS.out] at hcT
  clear B0 zR zT bb1 hP
  go_wp2_with fail
  (with_reducible refine hcT.mono ?_)
  rintro e w2 ⟨rfl, bb2⟩
  clear hcT t0 t1
  have hB2 := hB1.trans (bb2.mono hB1.size)
  have zr2 := zr1.keep bb2
  have zt2 := zt1.keep bb2
  have t0 := zt2.cell 0
  have t1 := zt2.cell 1
  simp at t0 t1
  have hrl : w.heap.size + 1 < w2.heap.size := zr2.lt
  clear hB1 zr1 zt1 bb2
  cases htr : treeD nx ds with
  | false =>
    rw [htr, if_pos (.inl rfl)] at hmd
    have hcC := href.out w2 1 hB2 zr2 hmd
    clear hmd htr zr2 zt2
    go_wp2_with fail
    (with_reducible refine hcC.mono ?_)
    rintro e wz ⟨b, m, cc, rfl, zz, hPz⟩
    have HPP : Hid _ := hPz
    have HZZ : Hid _ := zz
    have rr0 := zz.cell 0
    have rr1 := zz.cell 1
    have rf0 := zz.frozen 0
    have rf1 := zz.frozen 1
    simp at rr0 rr1
    clear zz hPz hcC t0 t1
    go_wp2
    have zf := blk2 HZZ.out (.slice b m cc) (.int .i64 nx)
    have dd0 := zf.cell 0
    have dd1 := zf.cell 1
    simp at dd0 dd1
    refine bodyPost_ret (v := .tuple #[.agg #[.slice b m cc, .int .i64 nx], .int .i64 1]) (by simp [results, Tryz.f55, go_sem, dd0, dd1]) rfl ?_
    exact HPP.out

  | true =>
    have htd := treeD_parts htr
    have hok := tabD_ok htd.1
    cases P3 with
    | false =>
      rw [if_pos (.inr rfl)] at hmd
      have hcC := href.out w2 1 hB2 zr2 hmd
      clear hmd htr zr2 zt2
      go_wp2_with fail
      (with_reducible refine hcC.mono ?_)
      rintro e wz ⟨b, m, cc, rfl, zz, hPz⟩
      have HPP : Hid _ := hPz
      have HZZ : Hid _ := zz
      have rr0 := zz.cell 0
      have rr1 := zz.cell 1
      have rf0 := zz.frozen 0
      have rf1 := zz.frozen 1
      simp at rr0 rr1
      clear zz hPz hcC t0 t1
      go_wp2
      have zf := blk2 HZZ.out (.slice b m cc) (.int .i64 nx)
      have dd0 := zf.cell 0
      have dd1 := zf.cell 1
      simp at dd0 dd1
      refine bodyPost_ret (v := .tuple #[.agg #[.slice b m cc, .int .i64 nx], .int .i64 1]) (by simp [results, Tryz.f55, go_sem, dd0, dd1]) rfl ?_
      exact HPP.out

    | true =>
      rw [htr, if_neg (by simp)] at hmd
      have hcS := fileS a n cap nx rs s w2 (HT.out.keep hB2) hs
      rw [HDS.out] at hcS
      obtain ⟨D, c, hDc⟩ : ∃ D c, fileD ds s = (D, c) := ⟨_, _, rfl⟩
      rw [hDc] at hmd hcS
      dsimp only at hmd hcS
      have HDC : Hid _ := hDc
      have HB2 : Hid _ := hB2
      have HZR : Hid _ := zr2
      have HZT : Hid _ := zt2
      have HOK : Hid _ := hok
      clear htr htd hok hDc hB2 zr2 zt2
      go_wp2_with fail
      (with_reducible refine hcS.mono ?_)
      rintro e w3 ⟨b1, d1, b2, d2, b3, d3, rfl, g2, bb3⟩
      clear hcS t0 t1
      have hs23 := bb3.size
      have zr3 := (Blk.keep HZR.out bb3).alloc (.cells #[.int .i64 D.ino, .int .i64 D.kind, .int .i64 D.links, .slice b1 D.data.length d1, .slice b2 D.ents.length d2, .slice b3 D.attrs.length d3] 66)
      have zt3 := (Blk.keep HZT.out bb3).alloc (.cells #[.int .i64 D.ino, .int .i64 D.kind, .int .i64 D.links, .slice b1 D.data.length d1, .slice b2 D.ents.length d2, .slice b3 D.attrs.length d3] 66)
      have hb3' := HB2.out.trans (bb3.mono HB2.out.size)
      have hb3 := hb3'.alloc hb3'.size (.cells #[.int .i64 D.ino, .int .i64 D.kind, .int .i64 D.links, .slice b1 D.data.length d1, .slice b2 D.ents.length d2, .slice b3 D.attrs.length d3] 66)
      have zX := Blk.new w3 66 #[.int .i64 D.ino, .int .i64 D.kind, .int .i64 D.links, .slice b1 D.data.length d1, .slice b2 D.ents.length d2, .slice b3 D.attrs.length d3]
      have g3 := g2.keep (Nat.le_refl _) ((Below.refl _ w3).alloc (Nat.le_refl _) (.cells #[.int .i64 D.ino, .int .i64 D.kind, .int .i64 D.links, .slice b1 D.data.length d1, .slice b2 D.ents.length d2, .slice b3 D.attrs.length d3] 66))
      have hlt : w3.heap.size < (w3.alloc (.cells #[.int .i64 D.ino, .int .i64 D.kind, .int .i64 D.links, .slice b1 D.data.length d1, .slice b2 D.ents.length d2, .slice b3 D.attrs.length d3] 66)).heap.size := by simp
      obtain ⟨W3, hW3⟩ : ∃ W, w3.alloc (.cells #[.int .i64 D.ino, .int .i64 D.kind, .int .i64 D.links, .slice b1 D.data.length d1, .slice b2 D.ents.length d2, .slice b3 D.attrs.length d3] 66) = W := ⟨_, rfl⟩
      rw [hW3] at zr3 zt3 hb3 zX g3 hlt
      have t0 := zt3.cell 0
      have t1 := zt3.cell 1
      simp at t0 t1
      obtain ⟨x0, x1, x2, x3, x4, x5⟩ := zX.six
      clear hb3' g2 bb3
      by_cases hc0 : c = 0
      · subst hc0
        rw [if_neg (by simp)] at hmd
        obtain ⟨hDm, _⟩ := fileD_mem HDC.out
        have hDl : D.links ≤ 1000 ∧ 0 ≤ D.links := by
          have h1 := (HOK.out.2.2.2.2.1 D hDm).1
          unfold inoOk at h1
          simp only [Bool.and_eq_true, decide_eq_true_eq] at h1
          omega
        have hDs : InoSmall D := HSm.out D hDm
        have hcP := dropPS a n cap nx rs s W3 (HT.out.keep hb3) hs
        rw [HDS.out] at hcP
        have HZX : Hid _ := zX
        have HZ3 : Hid _ := zr3
        have HB3 : Hid _ := hb3
        have HG3 : Hid _ := g3
        clear zX zr3 hb3 g3 zt3 x0 x1 x2 x3 x4 x5
        go_wp2_with fail
        (with_reducible refine hcP.mono ?_)
        rintro e w4 ⟨v, rfl, tA⟩
        clear hcP t0 t1
        obtain ⟨ob, om, oc, rs4, rfl, hT4, hD4, b4⟩ := tA.trs (dropP_small HSm.out s) (by have := dropP_len ds s; have := HOK.out.2.1; omega)
        have bO : Below w4.heap.size w4 (w4.alloc (.cells #[.slice ob om oc, .int .i64 nx] 26)) := (Below.refl _ w4).alloc (Nat.le_refl _) _
        have zO := Blk.new w4 26 #[.slice ob om oc, .int .i64 nx]
        have b5 := b4.trans (bO.mono b4.size)
        have zX5 := Blk.keep HZX.out b5
        have zr5 := Blk.keep HZ3.out b5
        have hB5 := HB3.out.trans (b5.mono HB3.out.size)
        have hT5 := hT4 _ bO
        have hs34 := b4.size
        obtain ⟨W5, hW5⟩ : ∃ W, w4.alloc (.cells #[.slice ob om oc, .int .i64 nx] 26) = W := ⟨_, rfl⟩
        rw [hW5] at bO zO b5 zX5 zr5 hB5 hT5
        obtain ⟨x0, x1, x2, x3, x4, x5⟩ := zX5.six
        have o0 := zO.cell 0
        have o1 := zO.cell 1
        simp at o0 o1
        by_cases hl1 : D.links = 1
        · rw [if_pos hl1] at hmd
          have hlb : (D.links == 1) = true := by simp [hl1]
          have hcF := dropT ob om oc nx D.ino rs4 W5 hT5.1
          rw [hD4] at hcF
          have HMF : Hid _ := hmd
          have HBW : Hid _ := hB5
          have HZW : Hid _ := zr5
          clear hl1 hmd hT4 hT5 hD4 b4 bO zO b5 zX5 zr5 hB5 tA hDm
          go_wp2_with fail
          (with_reducible refine hcF.mono ?_)
          rintro e wz ⟨v, rfl, tAz⟩
          obtain ⟨b, m, cc, rfl, zz, hPz⟩ := hset.out _ _ _ _ tAz HBW.out HZW.out HMF.out
          have HPP : Hid _ := hPz
          have HZZ : Hid _ := zz
          have rr0 := zz.cell 0
          have rr1 := zz.cell 1
          have rf0 := zz.frozen 0
          have rf1 := zz.frozen 1
          simp at rr0 rr1
          clear zz hPz hcF tAz o0 o1 x0 x1 x2 x3 x4 x5
          go_wp2
          have zf := blk2 HZZ.out (.slice b m cc) (.int .i64 nx)
          have dd0 := zf.cell 0
          have dd1 := zf.cell 1
          simp at dd0 dd1
          refine bodyPost_ret (v := .tuple #[.agg #[.slice b m cc, .int .i64 nx], .int .i64 0]) (by simp [results, Tryz.f55, go_sem, dd0, dd1]) rfl ?_
          exact HPP.out

        · rw [if_neg hl1] at hmd
          have hlb : (D.links == 1) = false := by simpa using hl1
          have hwk : IntKind.i64.wrap (D.links - 1) = D.links - 1 := by
            rcases (show D.links = 0 ∨ 1 ≤ D.links by omega) with h | h
            · rw [h]
              rfl
            · exact wrap_small _ (by omega) (by omega)
          have xf2 := zX5.frozen 2
          have gX := gr_setC W5 w3.heap.size 2 (.int .i64 (D.links - 1))
          have zX6 := zX5.set 2 (.int .i64 (D.links - 1))
          have zO6 := zO.kept gX (by have := Blk.lt HZX.out; omega)
          have zr6 := zr5.kept gX (by omega)
          have hG6 : InoG (W5.setCell ⟨w3.heap.size, 2, none⟩ (.int .i64 (D.links - 1))) w2.heap.size w3.heap.size D (.slice b1 D.data.length d1) (.slice b2 D.ents.length d2) (.slice b3 D.attrs.length d3) := (InoG.keep HG3.out (by omega) b5).kept fun k h1 h2 => gX.block k (by have := b5.size; omega) (by simp; omega)
          have hB6 := hB5.setCell (p := ⟨w3.heap.size, 2, none⟩) (by show w.heap.size ≤ w3.heap.size; omega) (.int .i64 (D.links - 1))
          have hT6 := hT5.2 w3.heap.size 2 (.int .i64 (D.links - 1)) hlt
          obtain ⟨E, hE⟩ : ∃ E, ({ D with links := D.links - 1 } : InoD) = E := ⟨_, rfl⟩
          have hEr : InoRd (W5.setCell ⟨w3.heap.size, 2, none⟩ (.int .i64 (D.links - 1))) E b1 b2 b3 := by
            rw [← hE]
            exact ⟨hG6.rds.data, hG6.rds.byt, hG6.rds.ents, hG6.rds.attrs⟩
          have hEs : InoSmall E := by rw [← hE]; exact ⟨hDs.data, hDs.ents, hDs.attrs, hDs.entsz, hDs.attrsz⟩
          have e1 : D.ino = E.ino ∧ D.kind = E.kind ∧ D.links - 1 = E.links ∧ D.data.length = E.data.length ∧ D.ents.length = E.ents.length ∧ D.attrs.length = E.attrs.length := by rw [← hE]; exact ⟨rfl, rfl, rfl, rfl, rfl, rfl⟩
          have hcF := setT ob om oc nx rs4 E b1 b2 b3 d1 d2 d3 (W5.setCell ⟨w3.heap.size, 2, none⟩ (.int .i64 (D.links - 1))) hT6 hEs hEr
          rw [hD4, ← e1.1, ← e1.2.1, ← e1.2.2.1, ← e1.2.2.2.1, ← e1.2.2.2.2.1, ← e1.2.2.2.2.2] at hcF
          rw [hE] at hmd
          have HMF : Hid _ := hmd
          obtain ⟨y0, y1, y2, y3, y4, y5⟩ := (show Blk (W5.setCell ⟨w3.heap.size, 2, none⟩ (.int .i64 (D.links - 1))) w3.heap.size 66 #[.int .i64 D.ino, .int .i64 D.kind, .int .i64 (D.links - 1), .slice b1 D.data.length d1, .slice b2 D.ents.length d2, .slice b3 D.attrs.length d3] from zX6).six
          have p0 := zO6.cell 0
          have p1 := zO6.cell 1
          simp at p0 p1
          obtain ⟨W6, hW6⟩ : ∃ W, W5.setCell ⟨w3.heap.size, 2, none⟩ (.int .i64 (D.links - 1)) = W := ⟨_, rfl⟩
          rw [hW6] at hcF hB6 zr6 y0 y1 y2 y3 y4 y5 p0 p1
          have HBW : Hid _ := hB6
          have HZW : Hid _ := zr6
          clear hl1 hmd hT4 hT5 hT6 hD4 b4 bO zO b5 zX5 zr5 hB5 tA hDm zX6 zO6 zr6 gX hG6 hB6 hE hEr hEs e1
          go_wp2_with fail
          (with_reducible refine hcF.mono ?_)
          rintro e wz ⟨v, rfl, tAz⟩
          obtain ⟨b, m, cc, rfl, zz, hPz⟩ := hset.out _ _ _ _ tAz HBW.out HZW.out HMF.out
          have HPP : Hid _ := hPz
          have HZZ : Hid _ := zz
          have rr0 := zz.cell 0
          have rr1 := zz.cell 1
          have rf0 := zz.frozen 0
          have rf1 := zz.frozen 1
          simp at rr0 rr1
          clear zz hPz hcF tAz o0 o1 x0 x1 x2 x3 x4 x5 y0 y1 y2 y3 y4 y5 p0 p1
          go_wp2
          have zf := blk2 HZZ.out (.slice b m cc) (.int .i64 nx)
          have dd0 := zf.cell 0
          have dd1 := zf.cell 1
          simp at dd0 dd1
          refine bodyPost_ret (v := .tuple #[.agg #[.slice b m cc, .int .i64 nx], .int .i64 0]) (by simp [results, Tryz.f55, go_sem, dd0, dd1]) rfl ?_
          exact HPP.out

      · rw [if_pos hc0] at hmd
        have hcC := href.out W3 c hb3 zr3 hmd
        have hcb : (c != 0) = true := by simpa using hc0
        have hcb' : (c == 0) = false := by simpa using hc0
        clear hmd zr3 zt3 hb3 zX g3
        go_wp2_with fail
        (with_reducible refine hcC.mono ?_)
        rintro e wz ⟨b, m, cc, rfl, zz, hPz⟩
        have HPP : Hid _ := hPz
        have HZZ : Hid _ := zz
        have rr0 := zz.cell 0
        have rr1 := zz.cell 1
        have rf0 := zz.frozen 0
        have rf1 := zz.frozen 1
        simp at rr0 rr1
        clear zz hPz hcC t0 t1 x0 x1 x2 x3 x4 x5
        go_wp2
        have zf := blk2 HZZ.out (.slice b m cc) (.int .i64 nx)
        have dd0 := zf.cell 0
        have dd1 := zf.cell 1
        simp at dd0 dd1
        refine bodyPost_ret (v := .tuple #[.agg #[.slice b m cc, .int .i64 nx], .int .i64 c]) (by simp [results, Tryz.f55, go_sem, dd0, dd1]) rfl ?_
        exact HPP.out
set_option maxRecDepth 100000 in
set_option maxHeartbeats 8000000 in
theorem removeS (a : Option Addr) (n cap : Nat) (nx : Int) (rs : List InoR) (s : ByteArray) (w : World) (ht : TR w a n rs) (hs : s.size ≤ 4000000) :
    Calls Tryz.prog 56 #[.agg #[.slice a n cap, .int .i64 nx], .string s] w fun e w' => TabC w nx (removeD nx (rs.map InoR.D) s).1 (removeD nx (rs.map InoR.D) s).2 e w' := by
  have B0 : Below w.heap.size w ((w.alloc (.cells #[.slice a n cap, .int .i64 nx] 26)).alloc (.cells #[.slice none 0 0, .int .i64 0] 26)) := ((Below.refl _ w).alloc (Nat.le_refl _) _).alloc (by simp) _
  have zT : Blk ((w.alloc (.cells #[.slice a n cap, .int .i64 nx] 26)).alloc (.cells #[.slice none 0 0, .int .i64 0] 26)) w.heap.size 26 #[.slice a n cap, .int .i64 nx] := (Blk.new w _ _).alloc _
  have zR := Blk.new (w.alloc (.cells #[.slice a n cap, .int .i64 nx] 26)) 26 #[.slice none 0 0, .int .i64 0]
  simp only [World.size_alloc] at zR
  obtain ⟨ds, hds⟩ : ∃ ds, rs.map InoR.D = ds := ⟨_, rfl⟩
  have hdn : ds.length = n := by rw [← hds, List.length_map, ht.len]
  have hp : Hid (∀ (e : Ending) (w' : World) (l : List InoD) (q : Int), removeD nx ds s = (l, q) → TabC w nx l q e w' → TabC w nx (removeD nx ds s).1 (removeD nx ds s).2 e w') := fun e w' l q h hh => by rw [h]; exact hh
  rw [hds]
  generalize TabC w nx (removeD nx ds s).1 (removeD nx ds s).2 = P at hp ⊢
  have hmd : removeD nx ds s = removeD nx ds s := rfl
  conv at hmd => rhs; unfold removeD
  have HDS : Hid _ := hds
  have HDN : Hid _ := hdn
  have HT : Hid _ := ht
  have HSm : Hid (∀ F ∈ ds, InoSmall F) := by
    intro F hF
    exact ht.smallD F (by rw [hds]; exact hF)
  have hn1 := ht.n
  have href : Hid (∀ (W : World) (q : Int), Below w.heap.size w W → Blk W (w.heap.size + 1) 26 #[.slice none 0 0, .int .i64 0] → removeD nx ds s = (ds, q) → Calls Tryz.prog 63 #[.agg #[.slice a n cap, .int .i64 nx]] W fun e V => ∃ (b : Option Addr) (m cc : Nat), e = .returned (.agg #[.slice b m cc, .int .i64 nx]) ∧ Blk V (w.heap.size + 1) 26 #[.slice none 0 0, .int .i64 0] ∧ P (.returned (.tuple #[.agg #[.slice b m cc, .int .i64 nx], .int .i64 q])) ((V.setCell ⟨w.heap.size + 1, 0, none⟩ (.slice b m cc)).setCell ⟨w.heap.size + 1, 1, none⟩ (.int .i64 nx))) := fun W q hb hz hq => by
    have hT := HT.out.keep hb
    refine (l4CopyS a n cap nx rs W hT.len hT.n hT.small hT.rd).mono fun e V h => ?_
    obtain ⟨b, m, cc, h1, h2, h3⟩ := copyC h hb (Nat.le_succ _) hz
    rw [HDS.out] at h3
    exact ⟨b, m, cc, h1, h2, hp.out _ _ _ _ hq (h3 q)⟩
  have hset : Hid (∀ (W V : World) (v : Value) (l : List InoD), TabAt W nx l v V → Below w.heap.size w W → Blk W (w.heap.size + 1) 26 #[.slice none 0 0, .int .i64 0] → removeD nx ds s = (l, 0) → ∃ (b : Option Addr) (m cc : Nat), v = .agg #[.slice b m cc, .int .i64 nx] ∧ Blk V (w.heap.size + 1) 26 #[.slice none 0 0, .int .i64 0] ∧ P (.returned (.tuple #[.agg #[.slice b m cc, .int .i64 nx], .int .i64 0])) ((V.setCell ⟨w.heap.size + 1, 0, none⟩ (.slice b m cc)).setCell ⟨w.heap.size + 1, 1, none⟩ (.int .i64 nx))) := fun W V v l h hb hz hq => by
    obtain ⟨b, cc, js, rfl, hQ, hbV⟩ := h
    refine ⟨b, js.length, cc, rfl, hz.keep hbV, hp.out _ _ _ _ hq ?_⟩
    have := hQ.boxed (hb.trans (hbV.mono hb.size)) (R := w.heap.size + 1) (by omega) hz.lt (.slice b js.length cc) (.int .i64 nx)
    exact ⟨b, cc, js, rfl, this.1, this.2⟩
  go_enter Tryz.func56, Tryz.ntmps56
  go_wp2_with fail
  obtain ⟨W0, hW0⟩ : ∃ W, (w.alloc (.cells #[.slice a n cap, .int .i64 nx] 26)).alloc (.cells #[.slice none 0 0, .int .i64 0] 26) = W := ⟨_, rfl⟩
  rw [hW0] at B0 zT zR ⊢
  clear hW0 ht hds hdn
  have hpp := parentS s W0 hs
  refine hpp.mono ?_
  rintro e w1 ⟨bb1, rfl⟩
  clear hpp
  obtain ⟨P1, P2, P3, hP⟩ : ∃ P1 P2 P3, parentOf s.data.toList = (P1, P2, P3) := ⟨_, _, _, rfl⟩
  rw [hP] at hmd ⊢
  dsimp only at hmd ⊢
  have hB1 := B0.trans (bb1.mono B0.size)
  have zr1 := zR.keep bb1
  have zt1 := zT.keep bb1
  have t0 := zt1.cell 0
  have t1 := zt1.cell 1
  simp at t0 t1
  have hcT := treeS a n cap nx rs w1 (HT.out.keep hB1)
  rw [HDS.out] at hcT
  clear B0 zR zT bb1 hP
  go_wp2_with fail
  (with_reducible refine hcT.mono ?_)
  rintro e w2 ⟨rfl, bb2⟩
  clear hcT t0 t1
  have hB2 := hB1.trans (bb2.mono hB1.size)
  have zr2 := zr1.keep bb2
  have zt2 := zt1.keep bb2
  have t0 := zt2.cell 0
  have t1 := zt2.cell 1
  simp at t0 t1
  have hrl : w.heap.size + 1 < w2.heap.size := zr2.lt
  clear hB1 zr1 zt1 bb2
  cases htr : treeD nx ds with
  | false =>
    rw [htr, if_pos (.inl rfl)] at hmd
    have hcC := href.out w2 1 hB2 zr2 hmd
    clear hmd htr zr2 zt2
    go_wp2_with fail
    (with_reducible refine hcC.mono ?_)
    rintro e wz ⟨b, m, cc, rfl, zz, hPz⟩
    have HPP : Hid _ := hPz
    have HZZ : Hid _ := zz
    have rr0 := zz.cell 0
    have rr1 := zz.cell 1
    have rf0 := zz.frozen 0
    have rf1 := zz.frozen 1
    simp at rr0 rr1
    clear zz hPz hcC t0 t1
    go_wp2
    have zf := blk2 HZZ.out (.slice b m cc) (.int .i64 nx)
    have dd0 := zf.cell 0
    have dd1 := zf.cell 1
    simp at dd0 dd1
    refine bodyPost_ret (v := .tuple #[.agg #[.slice b m cc, .int .i64 nx], .int .i64 1]) (by simp [results, Tryz.f56, go_sem, dd0, dd1]) rfl ?_
    exact HPP.out

  | true =>
    have htd := treeD_parts htr
    have hok := tabD_ok htd.1
    cases P3 with
    | false =>
      rw [if_pos (.inr rfl)] at hmd
      have hcC := href.out w2 1 hB2 zr2 hmd
      clear hmd htr zr2 zt2
      go_wp2_with fail
      (with_reducible refine hcC.mono ?_)
      rintro e wz ⟨b, m, cc, rfl, zz, hPz⟩
      have HPP : Hid _ := hPz
      have HZZ : Hid _ := zz
      have rr0 := zz.cell 0
      have rr1 := zz.cell 1
      have rf0 := zz.frozen 0
      have rf1 := zz.frozen 1
      simp at rr0 rr1
      clear zz hPz hcC t0 t1
      go_wp2
      have zf := blk2 HZZ.out (.slice b m cc) (.int .i64 nx)
      have dd0 := zf.cell 0
      have dd1 := zf.cell 1
      simp at dd0 dd1
      refine bodyPost_ret (v := .tuple #[.agg #[.slice b m cc, .int .i64 nx], .int .i64 1]) (by simp [results, Tryz.f56, go_sem, dd0, dd1]) rfl ?_
      exact HPP.out

    | true =>
      rw [htr, if_neg (by simp)] at hmd
      have hcS := statS a n cap nx rs s w2 (HT.out.keep hB2) hs
      rw [HDS.out] at hcS
      obtain ⟨D, c, hDc⟩ : ∃ D c, statD ds s = (D, c) := ⟨_, _, rfl⟩
      rw [hDc] at hmd hcS
      dsimp only at hmd hcS
      have HDC : Hid _ := hDc
      have HB2 : Hid _ := hB2
      have HZR : Hid _ := zr2
      have HZT : Hid _ := zt2
      have HOK : Hid _ := hok
      clear htr htd hok hDc hB2 zr2 zt2
      go_wp2_with fail
      (with_reducible refine hcS.mono ?_)
      rintro e w3 ⟨b1, d1, b2, d2, b3, d3, rfl, g2, bb3⟩
      clear hcS t0 t1
      have hs23 := bb3.size
      have zr3 := (Blk.keep HZR.out bb3).alloc (.cells #[.int .i64 D.ino, .int .i64 D.kind, .int .i64 D.links, .slice b1 D.data.length d1, .slice b2 D.ents.length d2, .slice b3 D.attrs.length d3] 66)
      have zt3 := (Blk.keep HZT.out bb3).alloc (.cells #[.int .i64 D.ino, .int .i64 D.kind, .int .i64 D.links, .slice b1 D.data.length d1, .slice b2 D.ents.length d2, .slice b3 D.attrs.length d3] 66)
      have hb3' := HB2.out.trans (bb3.mono HB2.out.size)
      have hb3 := hb3'.alloc hb3'.size (.cells #[.int .i64 D.ino, .int .i64 D.kind, .int .i64 D.links, .slice b1 D.data.length d1, .slice b2 D.ents.length d2, .slice b3 D.attrs.length d3] 66)
      have zX := Blk.new w3 66 #[.int .i64 D.ino, .int .i64 D.kind, .int .i64 D.links, .slice b1 D.data.length d1, .slice b2 D.ents.length d2, .slice b3 D.attrs.length d3]
      have g3 := g2.keep (Nat.le_refl _) ((Below.refl _ w3).alloc (Nat.le_refl _) (.cells #[.int .i64 D.ino, .int .i64 D.kind, .int .i64 D.links, .slice b1 D.data.length d1, .slice b2 D.ents.length d2, .slice b3 D.attrs.length d3] 66))
      have hlt : w3.heap.size < (w3.alloc (.cells #[.int .i64 D.ino, .int .i64 D.kind, .int .i64 D.links, .slice b1 D.data.length d1, .slice b2 D.ents.length d2, .slice b3 D.attrs.length d3] 66)).heap.size := by simp
      obtain ⟨W3, hW3⟩ : ∃ W, w3.alloc (.cells #[.int .i64 D.ino, .int .i64 D.kind, .int .i64 D.links, .slice b1 D.data.length d1, .slice b2 D.ents.length d2, .slice b3 D.attrs.length d3] 66) = W := ⟨_, rfl⟩
      rw [hW3] at zr3 zt3 hb3 zX g3 hlt
      have t0 := zt3.cell 0
      have t1 := zt3.cell 1
      simp at t0 t1
      obtain ⟨x0, x1, x2, x3, x4, x5⟩ := zX.six
      clear hb3' g2 bb3
      by_cases hc0 : c = 0
      · subst hc0
        rw [if_neg (by simp)] at hmd
        have hDs : InoSmall D := HSm.out D (statD_mem HDC.out)
        by_cases hk2 : D.kind = 2
        · rw [if_neg (by simp [hk2])] at hmd
          have hkb : (D.kind != 2) = false := by simp [hk2]
          have hkb' : (D.kind == 2) = true := by simp [hk2]
          clear hk2
          by_cases hl0 : 0 < D.ents.length
          · rw [if_pos hl0] at hmd
            have hli : (0 : Int) < (D.ents.length : Int) := by omega
            have hlb := hDs.ents
            have hcC := href.out W3 6 hb3 zr3 hmd
            clear hmd zr3 zt3 hb3 zX g3 hl0
            go_wp2_with fail
            (with_reducible refine hcC.mono ?_)
            rintro e wz ⟨b, m, cc, rfl, zz, hPz⟩
            have HPP : Hid _ := hPz
            have HZZ : Hid _ := zz
            have rr0 := zz.cell 0
            have rr1 := zz.cell 1
            have rf0 := zz.frozen 0
            have rf1 := zz.frozen 1
            simp at rr0 rr1
            clear zz hPz hcC t0 t1 x0 x1 x2 x3 x4 x5
            go_wp2
            have zf := blk2 HZZ.out (.slice b m cc) (.int .i64 nx)
            have dd0 := zf.cell 0
            have dd1 := zf.cell 1
            simp at dd0 dd1
            refine bodyPost_ret (v := .tuple #[.agg #[.slice b m cc, .int .i64 nx], .int .i64 6]) (by simp [results, Tryz.f56, go_sem, dd0, dd1]) rfl ?_
            exact HPP.out

          · rw [if_neg hl0] at hmd
            have hli : ¬ (0 : Int) < (D.ents.length : Int) := by omega
            have hlb := hDs.ents
            have hcP := dropPS a n cap nx rs s W3.drew (HT.out.keep hb3.drew) hs
            rw [HDS.out] at hcP
            have HK : Hid (∀ W : World, Below W3.heap.size W3 W → (W.cell? ⟨w.heap.size, 0, none⟩ = some (.slice a n cap) ∧ W.cell? ⟨w.heap.size, 1, none⟩ = some (.int .i64 nx) ∧ W.cell? ⟨w3.heap.size, 0, none⟩ = some (.int .i64 D.ino)) ∧ Blk W (w.heap.size + 1) 26 #[.slice none 0 0, .int .i64 0]) := fun W hW => ⟨⟨(zt3.keep hW).cell 0, (zt3.keep hW).cell 1, (zX.keep hW).cell 0⟩, zr3.keep hW⟩
            have HB3 : Hid _ := hb3
            have HMF : Hid _ := hmd
            have hne1 : w.heap.size + 1 ≠ w3.heap.size := by omega
            have hne2 : w.heap.size + 1 ≠ w.heap.size := by omega
            clear zX zr3 hb3 g3 zt3 hmd hl0
            go_upto_region 11 with fail
            go_region_held3 (fun W : World => W.cell? ⟨w.heap.size, 0, none⟩ = some (.slice a n cap) ∧ W.cell? ⟨w.heap.size, 1, none⟩ = some (.int .i64 nx) ∧ W.cell? ⟨w3.heap.size, 0, none⟩ = some (.int .i64 D.ino)) (go_keep) (first
              | (go_at_call 101; (with_reducible refine hcP.mono ?_); rintro e w4 ⟨v, rfl, tA⟩; obtain ⟨ob, om, oc, rs4, rfl, hT4, hD4, b4⟩ := tA.trs (dropP_small HSm.out s) (by have := dropP_len ds s; have := HOK.out.2.1; omega); have bW4 : Below W3.heap.size W3 w4 := (Below.refl _ W3).drew.trans b4; obtain ⟨⟨k0, k1, k2⟩, zr4⟩ := HK.out w4 bW4; have hcF := dropT ob om oc nx D.ino rs4 w4 (hT4 w4 (Below.refl _ _)).1; rw [hD4] at hcF)
              | (go_at_call 102; (with_reducible refine hcF.mono ?_); rintro e wz ⟨v, rfl, tAz⟩; obtain ⟨b, m, cc, rfl, zz, hPz⟩ := hset.out _ _ _ _ tAz (HB3.out.trans (bW4.mono HB3.out.size)) zr4 HMF.out; have bz := tAz.below; obtain ⟨⟨l0, l1, l2⟩, _⟩ := HK.out wz (bW4.trans (bz.mono bW4.size)); have rr0 := zz.cell 0; have rr1 := zz.cell 1; have rf0 := zz.frozen 0; have rf1 := zz.frozen 1; simp at rr0 rr1)
              | fail)
            have HPP : Hid _ := hPz
            have HZZ : Hid _ := zz
            clear zz hPz hcF hcP t0 t1 x0 x1 x2 x3 x4 x5 k0 k1 k2 l0 l1 l2
            go_wp2
            have zf := blk2 HZZ.out (.slice b m cc) (.int .i64 nx)
            have dd0 := zf.cell 0
            have dd1 := zf.cell 1
            simp at dd0 dd1
            refine bodyPost_ret (v := .tuple #[.agg #[.slice b m cc, .int .i64 nx], .int .i64 0]) (by simp [results, Tryz.f56, go_sem, dd0, dd1]) rfl ?_
            exact HPP.out
        · rw [if_pos hk2] at hmd
          have hkb : (D.kind != 2) = true := by simpa using hk2
          have hkb' : (D.kind == 2) = false := by simpa using hk2
          have hcC := href.out W3 3 hb3 zr3 hmd
          clear hmd zr3 zt3 hb3 zX g3 hk2
          go_wp2_with fail
          (with_reducible refine hcC.mono ?_)
          rintro e wz ⟨b, m, cc, rfl, zz, hPz⟩
          have HPP : Hid _ := hPz
          have HZZ : Hid _ := zz
          have rr0 := zz.cell 0
          have rr1 := zz.cell 1
          have rf0 := zz.frozen 0
          have rf1 := zz.frozen 1
          simp at rr0 rr1
          clear zz hPz hcC t0 t1 x0 x1 x2 x3 x4 x5
          go_wp2
          have zf := blk2 HZZ.out (.slice b m cc) (.int .i64 nx)
          have dd0 := zf.cell 0
          have dd1 := zf.cell 1
          simp at dd0 dd1
          refine bodyPost_ret (v := .tuple #[.agg #[.slice b m cc, .int .i64 nx], .int .i64 3]) (by simp [results, Tryz.f56, go_sem, dd0, dd1]) rfl ?_
          exact HPP.out

      · rw [if_pos hc0] at hmd
        have hcC := href.out W3 c hb3 zr3 hmd
        have hcb : (c != 0) = true := by simpa using hc0
        have hcb' : (c == 0) = false := by simpa using hc0
        clear hmd zr3 zt3 hb3 zX g3
        go_wp2_with fail
        (with_reducible refine hcC.mono ?_)
        rintro e wz ⟨b, m, cc, rfl, zz, hPz⟩
        have HPP : Hid _ := hPz
        have HZZ : Hid _ := zz
        have rr0 := zz.cell 0
        have rr1 := zz.cell 1
        have rf0 := zz.frozen 0
        have rf1 := zz.frozen 1
        simp at rr0 rr1
        clear zz hPz hcC t0 t1 x0 x1 x2 x3 x4 x5
        go_wp2
        have zf := blk2 HZZ.out (.slice b m cc) (.int .i64 nx)
        have dd0 := zf.cell 0
        have dd1 := zf.cell 1
        simp at dd0 dd1
        refine bodyPost_ret (v := .tuple #[.agg #[.slice b m cc, .int .i64 nx], .int .i64 c]) (by simp [results, Tryz.f56, go_sem, dd0, dd1]) rfl ?_
        exact HPP.out
end

section
open Go.RowKit
/-- The cursor gc over the slice (a, n, cap). -/
def Cur (w : World) (gc : Nat) (a : Option Addr) (n cap : Nat) : Prop :=
  ∃ (i : Nat) (h : Int), i ≤ n ∧ w.heap[gc]? = some (.cells #[.slice a n cap, .int .i64 i, .int .i64 h] 128 (0, 0))
theorem Cur.kept {w w' : World} {gc n cap g : Nat} {a : Option Addr} (h : Cur w gc a n cap) (hg : w.grownBy w' (some g)) (hne : gc ≠ g) : Cur w' gc a n cap := by
  obtain ⟨i, hh, hi, hb⟩ := h
  exact ⟨i, hh, hi, by rw [hg.block gc (Array.getElem?_eq_some_iff.1 hb).1 (by simpa using hne)]; exact hb⟩
theorem Cur.keep {w w' : World} {gc n cap B : Nat} {a : Option Addr} (h : Cur w gc a n cap) (hb : Below B w w') (hg : gc < B) : Cur w' gc a n cap := by
  obtain ⟨i, hh, hi, hbk⟩ := h
  exact ⟨i, hh, hi, by rw [hb.block gc hg]; exact hbk⟩
theorem Cur.lt {w : World} {gc n cap : Nat} {a : Option Addr} (h : Cur w gc a n cap) : gc < w.heap.size := by
  obtain ⟨i, hh, hi, hb⟩ := h
  exact (Array.getElem?_eq_some_iff.1 hb).1
theorem Rd.kept {w w' : World} {a : Option Addr} {zs : List Int} {g : Nat} (h : Rd w a zs) (hg : w.grownBy w' (some g)) (hne : zs ≠ [] → ∀ b off, a = some ⟨b, off, none⟩ → b ≠ g) : Rd w' a zs := by
  by_cases hz : zs = []
  · exact .inl hz
  · obtain ⟨b, off, rfl, hlt, hc⟩ := h.lt hz
    refine .inr ⟨b, off, rfl, fun i hi => ?_⟩
    have := hne hz b off rfl
    exact hg.cell (hc i hi) (by simpa using this)
/-- What a step of the cursor needs: the cursor, and the bytes that it reads, apart from it. -/
structure Src (w : World) (gc n cap : Nat) (a : Option Addr) (zs : List Int) : Prop where
  len : zs.length = n
  small : n ≤ 1048576
  cur : Cur w gc a n cap
  rd : Rd w a zs
  byt : Byt zs
  ne : zs ≠ [] → ∀ b off, a = some ⟨b, off, none⟩ → b < gc
theorem Src.step {w w' : World} {gc n cap : Nat} {a : Option Addr} {zs : List Int} (h : Src w gc n cap a zs) (hc : Cur w' gc a n cap) (hg : w.grownBy w' (some gc)) : Src w' gc n cap a zs :=
  ⟨h.len, h.small, hc, h.rd.kept hg (fun hz b off e => Nat.ne_of_lt (h.ne hz b off e)), h.byt, h.ne⟩
theorem Src.keep {w w' : World} {gc n cap : Nat} {a : Option Addr} {zs : List Int} (h : Src w gc n cap a zs) (hb : Below w.heap.size w w') : Src w' gc n cap a zs :=
  ⟨h.len, h.small, h.cur.keep hb h.cur.lt, h.rd.keep hb, h.byt, h.ne⟩
theorem Byt.snoc {ys : List Int} {x : Nat} (h : Byt ys) (hx : x ≤ 255) : Byt (ys ++ [(x : Int)]) := by
  intro z hz
  simp only [List.mem_append, List.mem_cons, List.not_mem_nil, or_false] at hz
  rcases hz with hz | hz
  · exact h z hz
  · omega
theorem Src.alloc {w : World} {gc n cap : Nat} {a : Option Addr} {zs : List Int} (h : Src w gc n cap a zs) (o : Obj) : Src (w.alloc o) gc n cap a zs := h.keep ((Below.refl _ _).alloc (Nat.le_refl _) o)
theorem Src.other {w w' : World} {gc n cap g : Nat} {a : Option Addr} {zs : List Int} (h : Src w gc n cap a zs) (hg : w.grownBy w' (some g)) (h1 : gc < g) : Src w' gc n cap a zs :=
  ⟨h.len, h.small, h.cur.kept hg (Nat.ne_of_lt h1), h.rd.kept hg (fun hz b off e => Nat.ne_of_lt (Nat.lt_trans (h.ne hz b off e) h1)), h.byt, h.ne⟩
theorem Src.drew {w : World} {gc n cap : Nat} {a : Option Addr} {zs : List Int} (h : Src w gc n cap a zs) : Src w.drew gc n cap a zs := h.keep (Below.refl _ _).drew
theorem Rd.at {w : World} {a : Option Addr} {zs : List Int} (h : Rd w a zs) : zs ≠ [] → ∀ b off, a = some ⟨b, off, none⟩ → b < w.heap.size := by
  intro hz b off e
  obtain ⟨b', off', e', hlt, _⟩ := h.lt hz
  rw [e] at e'
  simp at e'
  omega
end

section
open Go.RowKit
theorem eMeth_no {w w' : World} {nx : Int} {ds : List InoD} {c : Int} (hc : c ≠ 0) {ra : Option Addr} {rn rc : Nat} {rx : Int} (hb : Below w.heap.size w w') : EMeth w nx ds c (.returned (.tuple #[.agg #[.slice ra rn rc, .int .i64 rx], .iface 136 (.int .i64 c)])) w' :=
  ⟨ra, rn, rc, rx, by rw [errV_some hc], hb, fun h => absurd h hc⟩
theorem eMeth_yes {w W V : World} {nx : Int} {ds : List InoD} {a : Option Addr} {n cc : Nat} {R : Nat} {u0 u1 : Value} (h : TabAt W nx ds (.agg #[.slice a n cc, .int .i64 nx]) V) (hb : Below w.heap.size w W) (hR : w.heap.size ≤ R) (hz : Blk W R 26 #[u0, u1]) : EMeth w nx ds 0 (.returned (.tuple #[.agg #[.slice a n cc, .int .i64 nx], .nilIface])) ((V.setCell ⟨R, 0, none⟩ (.slice a n cc)).setCell ⟨R, 1, none⟩ (.int .i64 nx)) := by
  obtain ⟨a', c', js, hv, hq, hbV⟩ := h
  have h1 := hq.boxed (hb.trans (hbV.mono hb.size)) hR hz.lt (.slice a n cc) (.int .i64 nx)
  exact ⟨a, n, cc, nx, rfl, h1.2, fun _ => ⟨a', c', js, hv, h1.1, h1.2⟩⟩
theorem KpT.tr {W W1 W2 : World} {ts : List TypeId} (h : KpT W W1 ts) (k : KpT W1 W2 ts) : KpT W W2 ts := fun B cur t fr hB hm => by
  have h1 := h B cur t fr hB hm
  exact (k B cur t fr (h1.trans hB) hm).trans h1
theorem badK_mem {kd : Int} {ds : List InoD} {s : ByteArray} (h : (badK kd ds s).2 = 0) : (badK kd ds s).1 ∈ ds := by
  unfold badK at h ⊢
  split at h
  · simp at h
  · rename_i hc
    rw [if_neg hc]
    revert h
    unfold statD
    split
    · split
      · intro h; simp at h
      · rename_i D hD
        intro _
        exact (look_mem hD).1
    · rename_i hc
      intro h
      exact absurd h hc
end
end Go.Proofs.YtnfplimhhjpbkaaGreatDoor
