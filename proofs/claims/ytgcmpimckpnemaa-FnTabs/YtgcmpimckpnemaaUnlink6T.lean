/-
  What the specification's Unlink and RemoveDir answer.
-/
import Derived.Test.YtgcmpimckpnemaaA14T
namespace Go.Proofs.Ytgcmpimckpnemaa
open Go.RowKit
theorem fileD_mem {ds : List InoD} {s : ByteArray} {D : InoD} (h : fileD ds s = (D, 0)) : D ∈ ds ∧ statD ds s = (D, 0) := by
  unfold fileD at h
  split at h
  · simp at h
  · exact ⟨statD_mem h, h⟩
/-- DropInode, with what is told of tables here. -/
theorem dropT (a : Option Addr) (n cap : Nat) (nx x : Int) (rs : List InoR) (w : World) (ht : TR w a n rs) :
    Calls Try.prog 150 #[.agg #[.slice a n cap, .int .i64 nx], .int .i64 x] w fun e w' => ∃ v, e = .returned v ∧ TabAt w nx (dropD (rs.map InoR.D) x) v w' :=
  (dropS a n cap nx x rs w ht.len ht.n ht.small ht.rd).mono fun e w' h => by
    have := DropPost.tab h
    rw [dropD_eq] at this
    exact this
theorem TabAt.trs {w V : World} {nx : Int} {ds : List InoD} {v : Value} (h : TabAt w nx ds v V) (hs : ∀ D ∈ ds, InoSmall D) (hl : ds.length ≤ 1048576) : ∃ a n c rs, v = .agg #[.slice a n c, .int .i64 nx] ∧ (∀ V', Below V.heap.size V V' → TR V' a n rs ∧ ∀ (X i : Nat) (u : Value), X < w.heap.size → TR (V'.setCell ⟨X, i, none⟩ u) a n rs) ∧ rs.map InoR.D = ds ∧ Below w.heap.size w V := by
  obtain ⟨a, c, js, rfl, hq, hb⟩ := h
  have h1 : (js.map InoJ.r).map InoR.D = ds := by rw [hq.ds, lift_map]
  have h2 : js.length = ds.length := by rw [← h1]; simp
  have hsm : ∀ r ∈ js.map InoJ.r, InoSmall r.D := fun r hr => hs r.D (by rw [← h1]; exact List.mem_map_of_mem hr)
  refine ⟨a, js.length, c, js.map InoJ.r, rfl, fun V' hV => ⟨⟨by simp, by omega, hsm, (hq.keep hV).rd rfl⟩, fun X i u hX => ⟨by simp, by omega, hsm, ((hq.keep hV).setX hX i u).rd rfl⟩⟩, h1, hb⟩
theorem TabAt.below {w V : World} {nx : Int} {ds : List InoD} {v : Value} (h : TabAt w nx ds v V) : Below w.heap.size w V := by
  obtain ⟨_, _, _, _, _, hb⟩ := h
  exact hb
theorem dropP_small {ds : List InoD} (h : ∀ E ∈ ds, InoSmall E) (s : ByteArray) : ∀ E ∈ dropP ds s, InoSmall E := setD_small h (cutE_small (statD_small h) _)
theorem dropP_len (ds : List InoD) (s : ByteArray) : (dropP ds s).length ≤ ds.length + 1 := setD_len _ _
def unlinkD (nx : Int) (ds : List InoD) (s : ByteArray) : List InoD × Int :=
  if treeD nx ds = false ∨ (parentOf s.data.toList).2.2 = false then (ds, 1)
  else if (fileD ds s).2 ≠ 0 then (ds, (fileD ds s).2)
  else if (fileD ds s).1.links = 1 then (dropD (dropP ds s) (fileD ds s).1.ino, 0)
  else (setD (dropP ds s) { (fileD ds s).1 with links := (fileD ds s).1.links - 1 }, 0)
def removeD (nx : Int) (ds : List InoD) (s : ByteArray) : List InoD × Int :=
  if treeD nx ds = false ∨ (parentOf s.data.toList).2.2 = false then (ds, 1)
  else if (statD ds s).2 ≠ 0 then (ds, (statD ds s).2)
  else if (statD ds s).1.kind ≠ 2 then (ds, 3)
  else if 0 < (statD ds s).1.ents.length then (ds, 6)
  else (dropD (dropP ds s) (statD ds s).1.ino, 0)
set_option maxRecDepth 100000 in
set_option maxHeartbeats 8000000 in
theorem unlinkS (a : Option Addr) (n cap : Nat) (nx : Int) (rs : List InoR) (s : ByteArray) (w : World) (ht : TR w a n rs) (hs : s.size ≤ 4000000) :
    Calls Try.prog 113 #[.agg #[.slice a n cap, .int .i64 nx], .string s] w fun e w' => TabC w nx (unlinkD nx (rs.map InoR.D) s).1 (unlinkD nx (rs.map InoR.D) s).2 e w' := by
  have B0 : Below w.heap.size w ((w.alloc (.cells #[.slice a n cap, .int .i64 nx] 26)).alloc (.cells #[.slice none 0 0, .int .i64 0] 26)) := ((Below.refl _ w).alloc (Nat.le_refl _) _).alloc (by simp) _
  have zT : Blk ((w.alloc (.cells #[.slice a n cap, .int .i64 nx] 26)).alloc (.cells #[.slice none 0 0, .int .i64 0] 26)) w.heap.size 26 #[.slice a n cap, .int .i64 nx] := (Blk.new w _ _).alloc _
  have zR := Blk.new (w.alloc (.cells #[.slice a n cap, .int .i64 nx] 26)) 26 #[.slice none 0 0, .int .i64 0]
  simp only [World.size_alloc] at zR
  obtain ⟨ds, hds⟩ : ∃ ds, rs.map InoR.D = ds := ⟨_, rfl⟩
  have hdn : ds.length = n := by rw [← hds, List.length_map, ht.len]
  have hp : Hid (∀ (e : Ending) (w' : World) (l : List InoD) (q : Int), unlinkD nx ds s = (l, q) → TabC w nx l q e w' → TabC w nx (unlinkD nx ds s).1 (unlinkD nx ds s).2 e w') := fun e w' l q h hh => by rw [h]; exact hh
  rw [hds]
  generalize TabC w nx (unlinkD nx ds s).1 (unlinkD nx ds s).2 = P at hp ⊢
  have hmd : unlinkD nx ds s = unlinkD nx ds s := rfl
  conv at hmd => rhs; unfold unlinkD
  have HDS : Hid _ := hds
  have HDN : Hid _ := hdn
  have HT : Hid _ := ht
  have HSm : Hid (∀ F ∈ ds, InoSmall F) := by
    intro F hF
    exact ht.smallD F (by rw [hds]; exact hF)
  have hn1 := ht.n
  have href : Hid (∀ (W : World) (q : Int), Below w.heap.size w W → Blk W (w.heap.size + 1) 26 #[.slice none 0 0, .int .i64 0] → unlinkD nx ds s = (ds, q) → Calls Try.prog 41 #[.agg #[.slice a n cap, .int .i64 nx]] W fun e V => ∃ (b : Option Addr) (m cc : Nat), e = .returned (.agg #[.slice b m cc, .int .i64 nx]) ∧ Blk V (w.heap.size + 1) 26 #[.slice none 0 0, .int .i64 0] ∧ P (.returned (.tuple #[.agg #[.slice b m cc, .int .i64 nx], .int .i64 q])) ((V.setCell ⟨w.heap.size + 1, 0, none⟩ (.slice b m cc)).setCell ⟨w.heap.size + 1, 1, none⟩ (.int .i64 nx))) := fun W q hb hz hq => by
    have hT := HT.out.keep hb
    refine (l4CopyS a n cap nx rs W hT.len hT.n hT.small hT.rd).mono fun e V h => ?_
    obtain ⟨b, m, cc, h1, h2, h3⟩ := copyC h hb (Nat.le_succ _) hz
    rw [HDS.out] at h3
    exact ⟨b, m, cc, h1, h2, hp.out _ _ _ _ hq (h3 q)⟩
  have hset : Hid (∀ (W V : World) (v : Value) (l : List InoD), TabAt W nx l v V → Below w.heap.size w W → Blk W (w.heap.size + 1) 26 #[.slice none 0 0, .int .i64 0] → unlinkD nx ds s = (l, 0) → ∃ (b : Option Addr) (m cc : Nat), v = .agg #[.slice b m cc, .int .i64 nx] ∧ Blk V (w.heap.size + 1) 26 #[.slice none 0 0, .int .i64 0] ∧ P (.returned (.tuple #[.agg #[.slice b m cc, .int .i64 nx], .int .i64 0])) ((V.setCell ⟨w.heap.size + 1, 0, none⟩ (.slice b m cc)).setCell ⟨w.heap.size + 1, 1, none⟩ (.int .i64 nx))) := fun W V v l h hb hz hq => by
    obtain ⟨b, cc, js, rfl, hQ, hbV⟩ := h
    refine ⟨b, js.length, cc, rfl, hz.keep hbV, hp.out _ _ _ _ hq ?_⟩
    have := hQ.boxed (hb.trans (hbV.mono hb.size)) (R := w.heap.size + 1) (by omega) hz.lt (.slice b js.length cc) (.int .i64 nx)
    exact ⟨b, cc, js, rfl, this.1, this.2⟩
  go_enter Try.func113, Try.ntmps113
  go_wp2_with fail
  obtain ⟨W0, hW0⟩ : ∃ W, (w.alloc (.cells #[.slice a n cap, .int .i64 nx] 26)).alloc (.cells #[.slice none 0 0, .int .i64 0] 26) = W := ⟨_, rfl⟩
  rw [hW0] at B0 zT zR ⊢
  clear hW0 ht hds hdn
  have hpp := parentS s W0 hs
  refine hpp.mono ?_
  rintro e w1 ⟨bb1, rfl⟩
  clear hpp
  obtain ⟨P1, P2, P3, hP⟩ : ∃ P1 P2 P3, parentOf s.data.toList = (P1, P2, P3) := ⟨_, _, _, rfl⟩
  rw [hP] at hmd ⊢
  dsimp only at hmd ⊢
  have hB1 := B0.trans (bb1.mono B0.size)
  have zr1 := zR.keep bb1
  have zt1 := zT.keep bb1
  have t0 := zt1.cell 0
  have t1 := zt1.cell 1
  simp at t0 t1
  have hcT := treeS a n cap nx rs w1 (HT.out.keep hB1)
  rw [HDS.out] at hcT
  clear B0 zR zT bb1 hP
  go_wp2_with fail
  (with_reducible refine hcT.mono ?_)
  rintro e w2 ⟨rfl, bb2⟩
  clear hcT t0 t1
  have hB2 := hB1.trans (bb2.mono hB1.size)
  have zr2 := zr1.keep bb2
  have zt2 := zt1.keep bb2
  have t0 := zt2.cell 0
  have t1 := zt2.cell 1
  simp at t0 t1
  have hrl : w.heap.size + 1 < w2.heap.size := zr2.lt
  clear hB1 zr1 zt1 bb2
  cases htr : treeD nx ds with
  | false =>
    rw [htr, if_pos (.inl rfl)] at hmd
    have hcC := href.out w2 1 hB2 zr2 hmd
    clear hmd htr zr2 zt2
    go_wp2_with fail
    (with_reducible refine hcC.mono ?_)
    rintro e wz ⟨b, m, cc, rfl, zz, hPz⟩
    have HPP : Hid _ := hPz
    have HZZ : Hid _ := zz
    have rr0 := zz.cell 0
    have rr1 := zz.cell 1
    have rf0 := zz.frozen 0
    have rf1 := zz.frozen 1
    simp at rr0 rr1
    clear zz hPz hcC t0 t1
    go_wp2
    have zf := blk2 HZZ.out (.slice b m cc) (.int .i64 nx)
    have dd0 := zf.cell 0
    have dd1 := zf.cell 1
    simp at dd0 dd1
    refine bodyPost_ret (v := .tuple #[.agg #[.slice b m cc, .int .i64 nx], .int .i64 1]) (by simp [results, Try.f113, go_sem, dd0, dd1]) rfl ?_
    exact HPP.out

  | true =>
    have htd := treeD_parts htr
    have hok := tabD_ok htd.1
    cases P3 with
    | false =>
      rw [if_pos (.inr rfl)] at hmd
      have hcC := href.out w2 1 hB2 zr2 hmd
      clear hmd htr zr2 zt2
      go_wp2_with fail
      (with_reducible refine hcC.mono ?_)
      rintro e wz ⟨b, m, cc, rfl, zz, hPz⟩
      have HPP : Hid _ := hPz
      have HZZ : Hid _ := zz
      have rr0 := zz.cell 0
      have rr1 := zz.cell 1
      have rf0 := zz.frozen 0
      have rf1 := zz.frozen 1
      simp at rr0 rr1
      clear zz hPz hcC t0 t1
      go_wp2
      have zf := blk2 HZZ.out (.slice b m cc) (.int .i64 nx)
      have dd0 := zf.cell 0
      have dd1 := zf.cell 1
      simp at dd0 dd1
      refine bodyPost_ret (v := .tuple #[.agg #[.slice b m cc, .int .i64 nx], .int .i64 1]) (by simp [results, Try.f113, go_sem, dd0, dd1]) rfl ?_
      exact HPP.out

    | true =>
      rw [htr, if_neg (by simp)] at hmd
      have hcS := fileS a n cap nx rs s w2 (HT.out.keep hB2) hs
      rw [HDS.out] at hcS
      obtain ⟨D, c, hDc⟩ : ∃ D c, fileD ds s = (D, c) := ⟨_, _, rfl⟩
      rw [hDc] at hmd hcS
      dsimp only at hmd hcS
      have HDC : Hid _ := hDc
      have HB2 : Hid _ := hB2
      have HZR : Hid _ := zr2
      have HZT : Hid _ := zt2
      have HOK : Hid _ := hok
      clear htr htd hok hDc hB2 zr2 zt2
      go_wp2_with fail
      (with_reducible refine hcS.mono ?_)
      rintro e w3 ⟨b1, d1, b2, d2, b3, d3, rfl, g2, bb3⟩
      clear hcS t0 t1
      have hs23 := bb3.size
      have zr3 := (Blk.keep HZR.out bb3).alloc (.cells #[.int .i64 D.ino, .int .i64 D.kind, .int .i64 D.links, .slice b1 D.data.length d1, .slice b2 D.ents.length d2, .slice b3 D.attrs.length d3] 30)
      have zt3 := (Blk.keep HZT.out bb3).alloc (.cells #[.int .i64 D.ino, .int .i64 D.kind, .int .i64 D.links, .slice b1 D.data.length d1, .slice b2 D.ents.length d2, .slice b3 D.attrs.length d3] 30)
      have hb3' := HB2.out.trans (bb3.mono HB2.out.size)
      have hb3 := hb3'.alloc hb3'.size (.cells #[.int .i64 D.ino, .int .i64 D.kind, .int .i64 D.links, .slice b1 D.data.length d1, .slice b2 D.ents.length d2, .slice b3 D.attrs.length d3] 30)
      have zX := Blk.new w3 30 #[.int .i64 D.ino, .int .i64 D.kind, .int .i64 D.links, .slice b1 D.data.length d1, .slice b2 D.ents.length d2, .slice b3 D.attrs.length d3]
      have g3 := g2.keep (Nat.le_refl _) ((Below.refl _ w3).alloc (Nat.le_refl _) (.cells #[.int .i64 D.ino, .int .i64 D.kind, .int .i64 D.links, .slice b1 D.data.length d1, .slice b2 D.ents.length d2, .slice b3 D.attrs.length d3] 30))
      have hlt : w3.heap.size < (w3.alloc (.cells #[.int .i64 D.ino, .int .i64 D.kind, .int .i64 D.links, .slice b1 D.data.length d1, .slice b2 D.ents.length d2, .slice b3 D.attrs.length d3] 30)).heap.size := by simp
      obtain ⟨W3, hW3⟩ : ∃ W, w3.alloc (.cells #[.int .i64 D.ino, .int .i64 D.kind, .int .i64 D.links, .slice b1 D.data.length d1, .slice b2 D.ents.length d2, .slice b3 D.attrs.length d3] 30) = W := ⟨_, rfl⟩
      rw [hW3] at zr3 zt3 hb3 zX g3 hlt
      have t0 := zt3.cell 0
      have t1 := zt3.cell 1
      simp at t0 t1
      obtain ⟨x0, x1, x2, x3, x4, x5⟩ := zX.six
      clear hb3' g2 bb3
      by_cases hc0 : c = 0
      · subst hc0
        rw [if_neg (by simp)] at hmd
        obtain ⟨hDm, _⟩ := fileD_mem HDC.out
        have hDl : D.links ≤ 1000 ∧ 0 ≤ D.links := by
          have h1 := (HOK.out.2.2.2.2.1 D hDm).1
          unfold inoOk at h1
          simp only [Bool.and_eq_true, decide_eq_true_eq] at h1
          omega
        have hDs : InoSmall D := HSm.out D hDm
        have hcP := dropPS a n cap nx rs s W3 (HT.out.keep hb3) hs
        rw [HDS.out] at hcP
        have HZX : Hid _ := zX
        have HZ3 : Hid _ := zr3
        have HB3 : Hid _ := hb3
        have HG3 : Hid _ := g3
        clear zX zr3 hb3 g3 zt3 x0 x1 x2 x3 x4 x5
        go_wp2_with fail
        (with_reducible refine hcP.mono ?_)
        rintro e w4 ⟨v, rfl, tA⟩
        clear hcP t0 t1
        obtain ⟨ob, om, oc, rs4, rfl, hT4, hD4, b4⟩ := tA.trs (dropP_small HSm.out s) (by have := dropP_len ds s; have := HOK.out.2.1; omega)
        have bO : Below w4.heap.size w4 (w4.alloc (.cells #[.slice ob om oc, .int .i64 nx] 26)) := (Below.refl _ w4).alloc (Nat.le_refl _) _
        have zO := Blk.new w4 26 #[.slice ob om oc, .int .i64 nx]
        have b5 := b4.trans (bO.mono b4.size)
        have zX5 := Blk.keep HZX.out b5
        have zr5 := Blk.keep HZ3.out b5
        have hB5 := HB3.out.trans (b5.mono HB3.out.size)
        have hT5 := hT4 _ bO
        have hs34 := b4.size
        obtain ⟨W5, hW5⟩ : ∃ W, w4.alloc (.cells #[.slice ob om oc, .int .i64 nx] 26) = W := ⟨_, rfl⟩
        rw [hW5] at bO zO b5 zX5 zr5 hB5 hT5
        obtain ⟨x0, x1, x2, x3, x4, x5⟩ := zX5.six
        have o0 := zO.cell 0
        have o1 := zO.cell 1
        simp at o0 o1
        by_cases hl1 : D.links = 1
        · rw [if_pos hl1] at hmd
          have hlb : (D.links == 1) = true := by simp [hl1]
          have hcF := dropT ob om oc nx D.ino rs4 W5 hT5.1
          rw [hD4] at hcF
          have HMF : Hid _ := hmd
          have HBW : Hid _ := hB5
          have HZW : Hid _ := zr5
          clear hl1 hmd hT4 hT5 hD4 b4 bO zO b5 zX5 zr5 hB5 tA hDm
          go_wp2_with fail
          (with_reducible refine hcF.mono ?_)
          rintro e wz ⟨v, rfl, tAz⟩
          obtain ⟨b, m, cc, rfl, zz, hPz⟩ := hset.out _ _ _ _ tAz HBW.out HZW.out HMF.out
          have HPP : Hid _ := hPz
          have HZZ : Hid _ := zz
          have rr0 := zz.cell 0
          have rr1 := zz.cell 1
          have rf0 := zz.frozen 0
          have rf1 := zz.frozen 1
          simp at rr0 rr1
          clear zz hPz hcF tAz o0 o1 x0 x1 x2 x3 x4 x5
          go_wp2
          have zf := blk2 HZZ.out (.slice b m cc) (.int .i64 nx)
          have dd0 := zf.cell 0
          have dd1 := zf.cell 1
          simp at dd0 dd1
          refine bodyPost_ret (v := .tuple #[.agg #[.slice b m cc, .int .i64 nx], .int .i64 0]) (by simp [results, Try.f113, go_sem, dd0, dd1]) rfl ?_
          exact HPP.out

        · rw [if_neg hl1] at hmd
          have hlb : (D.links == 1) = false := by simpa using hl1
          have hwk : IntKind.i64.wrap (D.links - 1) = D.links - 1 := by
            rcases (show D.links = 0 ∨ 1 ≤ D.links by omega) with h | h
            · rw [h]
              rfl
            · exact wrap_small _ (by omega) (by omega)
          have xf2 := zX5.frozen 2
          have gX := gr_setC W5 w3.heap.size 2 (.int .i64 (D.links - 1))
          have zX6 := zX5.set 2 (.int .i64 (D.links - 1))
          have zO6 := zO.kept gX (by have := Blk.lt HZX.out; omega)
          have zr6 := zr5.kept gX (by omega)
          have hG6 : InoG (W5.setCell ⟨w3.heap.size, 2, none⟩ (.int .i64 (D.links - 1))) w2.heap.size w3.heap.size D (.slice b1 D.data.length d1) (.slice b2 D.ents.length d2) (.slice b3 D.attrs.length d3) := (InoG.keep HG3.out (by omega) b5).kept fun k h1 h2 => gX.block k (by have := b5.size; omega) (by simp; omega)
          have hB6 := hB5.setCell (p := ⟨w3.heap.size, 2, none⟩) (by show w.heap.size ≤ w3.heap.size; omega) (.int .i64 (D.links - 1))
          have hT6 := hT5.2 w3.heap.size 2 (.int .i64 (D.links - 1)) hlt
          obtain ⟨E, hE⟩ : ∃ E, ({ D with links := D.links - 1 } : InoD) = E := ⟨_, rfl⟩
          have hEr : InoRd (W5.setCell ⟨w3.heap.size, 2, none⟩ (.int .i64 (D.links - 1))) E b1 b2 b3 := by
            rw [← hE]
            exact ⟨hG6.rds.data, hG6.rds.byt, hG6.rds.ents, hG6.rds.attrs⟩
          have hEs : InoSmall E := by rw [← hE]; exact ⟨hDs.data, hDs.ents, hDs.attrs, hDs.entsz, hDs.attrsz⟩
          have e1 : D.ino = E.ino ∧ D.kind = E.kind ∧ D.links - 1 = E.links ∧ D.data.length = E.data.length ∧ D.ents.length = E.ents.length ∧ D.attrs.length = E.attrs.length := by rw [← hE]; exact ⟨rfl, rfl, rfl, rfl, rfl, rfl⟩
          have hcF := setT ob om oc nx rs4 E b1 b2 b3 d1 d2 d3 (W5.setCell ⟨w3.heap.size, 2, none⟩ (.int .i64 (D.links - 1))) hT6 hEs hEr
          rw [hD4, ← e1.1, ← e1.2.1, ← e1.2.2.1, ← e1.2.2.2.1, ← e1.2.2.2.2.1, ← e1.2.2.2.2.2] at hcF
          rw [hE] at hmd
          have HMF : Hid _ := hmd
          obtain ⟨y0, y1, y2, y3, y4, y5⟩ := (show Blk (W5.setCell ⟨w3.heap.size, 2, none⟩ (.int .i64 (D.links - 1))) w3.heap.size 30 #[.int .i64 D.ino, .int .i64 D.kind, .int .i64 (D.links - 1), .slice b1 D.data.length d1, .slice b2 D.ents.length d2, .slice b3 D.attrs.length d3] from zX6).six
          have p0 := zO6.cell 0
          have p1 := zO6.cell 1
          simp at p0 p1
          obtain ⟨W6, hW6⟩ : ∃ W, W5.setCell ⟨w3.heap.size, 2, none⟩ (.int .i64 (D.links - 1)) = W := ⟨_, rfl⟩
          rw [hW6] at hcF hB6 zr6 y0 y1 y2 y3 y4 y5 p0 p1
          have HBW : Hid _ := hB6
          have HZW : Hid _ := zr6
          clear hl1 hmd hT4 hT5 hT6 hD4 b4 bO zO b5 zX5 zr5 hB5 tA hDm zX6 zO6 zr6 gX hG6 hB6 hE hEr hEs e1
          go_wp2_with fail
          (with_reducible refine hcF.mono ?_)
          rintro e wz ⟨v, rfl, tAz⟩
          obtain ⟨b, m, cc, rfl, zz, hPz⟩ := hset.out _ _ _ _ tAz HBW.out HZW.out HMF.out
          have HPP : Hid _ := hPz
          have HZZ : Hid _ := zz
          have rr0 := zz.cell 0
          have rr1 := zz.cell 1
          have rf0 := zz.frozen 0
          have rf1 := zz.frozen 1
          simp at rr0 rr1
          clear zz hPz hcF tAz o0 o1 x0 x1 x2 x3 x4 x5 y0 y1 y2 y3 y4 y5 p0 p1
          go_wp2
          have zf := blk2 HZZ.out (.slice b m cc) (.int .i64 nx)
          have dd0 := zf.cell 0
          have dd1 := zf.cell 1
          simp at dd0 dd1
          refine bodyPost_ret (v := .tuple #[.agg #[.slice b m cc, .int .i64 nx], .int .i64 0]) (by simp [results, Try.f113, go_sem, dd0, dd1]) rfl ?_
          exact HPP.out

      · rw [if_pos hc0] at hmd
        have hcC := href.out W3 c hb3 zr3 hmd
        have hcb : (c != 0) = true := by simpa using hc0
        have hcb' : (c == 0) = false := by simpa using hc0
        clear hmd zr3 zt3 hb3 zX g3
        go_wp2_with fail
        (with_reducible refine hcC.mono ?_)
        rintro e wz ⟨b, m, cc, rfl, zz, hPz⟩
        have HPP : Hid _ := hPz
        have HZZ : Hid _ := zz
        have rr0 := zz.cell 0
        have rr1 := zz.cell 1
        have rf0 := zz.frozen 0
        have rf1 := zz.frozen 1
        simp at rr0 rr1
        clear zz hPz hcC t0 t1 x0 x1 x2 x3 x4 x5
        go_wp2
        have zf := blk2 HZZ.out (.slice b m cc) (.int .i64 nx)
        have dd0 := zf.cell 0
        have dd1 := zf.cell 1
        simp at dd0 dd1
        refine bodyPost_ret (v := .tuple #[.agg #[.slice b m cc, .int .i64 nx], .int .i64 c]) (by simp [results, Try.f113, go_sem, dd0, dd1]) rfl ?_
        exact HPP.out
set_option maxRecDepth 100000 in
set_option maxHeartbeats 8000000 in
theorem removeS (a : Option Addr) (n cap : Nat) (nx : Int) (rs : List InoR) (s : ByteArray) (w : World) (ht : TR w a n rs) (hs : s.size ≤ 4000000) :
    Calls Try.prog 116 #[.agg #[.slice a n cap, .int .i64 nx], .string s] w fun e w' => TabC w nx (removeD nx (rs.map InoR.D) s).1 (removeD nx (rs.map InoR.D) s).2 e w' := by
  have B0 : Below w.heap.size w ((w.alloc (.cells #[.slice a n cap, .int .i64 nx] 26)).alloc (.cells #[.slice none 0 0, .int .i64 0] 26)) := ((Below.refl _ w).alloc (Nat.le_refl _) _).alloc (by simp) _
  have zT : Blk ((w.alloc (.cells #[.slice a n cap, .int .i64 nx] 26)).alloc (.cells #[.slice none 0 0, .int .i64 0] 26)) w.heap.size 26 #[.slice a n cap, .int .i64 nx] := (Blk.new w _ _).alloc _
  have zR := Blk.new (w.alloc (.cells #[.slice a n cap, .int .i64 nx] 26)) 26 #[.slice none 0 0, .int .i64 0]
  simp only [World.size_alloc] at zR
  obtain ⟨ds, hds⟩ : ∃ ds, rs.map InoR.D = ds := ⟨_, rfl⟩
  have hdn : ds.length = n := by rw [← hds, List.length_map, ht.len]
  have hp : Hid (∀ (e : Ending) (w' : World) (l : List InoD) (q : Int), removeD nx ds s = (l, q) → TabC w nx l q e w' → TabC w nx (removeD nx ds s).1 (removeD nx ds s).2 e w') := fun e w' l q h hh => by rw [h]; exact hh
  rw [hds]
  generalize TabC w nx (removeD nx ds s).1 (removeD nx ds s).2 = P at hp ⊢
  have hmd : removeD nx ds s = removeD nx ds s := rfl
  conv at hmd => rhs; unfold removeD
  have HDS : Hid _ := hds
  have HDN : Hid _ := hdn
  have HT : Hid _ := ht
  have HSm : Hid (∀ F ∈ ds, InoSmall F) := by
    intro F hF
    exact ht.smallD F (by rw [hds]; exact hF)
  have hn1 := ht.n
  have href : Hid (∀ (W : World) (q : Int), Below w.heap.size w W → Blk W (w.heap.size + 1) 26 #[.slice none 0 0, .int .i64 0] → removeD nx ds s = (ds, q) → Calls Try.prog 41 #[.agg #[.slice a n cap, .int .i64 nx]] W fun e V => ∃ (b : Option Addr) (m cc : Nat), e = .returned (.agg #[.slice b m cc, .int .i64 nx]) ∧ Blk V (w.heap.size + 1) 26 #[.slice none 0 0, .int .i64 0] ∧ P (.returned (.tuple #[.agg #[.slice b m cc, .int .i64 nx], .int .i64 q])) ((V.setCell ⟨w.heap.size + 1, 0, none⟩ (.slice b m cc)).setCell ⟨w.heap.size + 1, 1, none⟩ (.int .i64 nx))) := fun W q hb hz hq => by
    have hT := HT.out.keep hb
    refine (l4CopyS a n cap nx rs W hT.len hT.n hT.small hT.rd).mono fun e V h => ?_
    obtain ⟨b, m, cc, h1, h2, h3⟩ := copyC h hb (Nat.le_succ _) hz
    rw [HDS.out] at h3
    exact ⟨b, m, cc, h1, h2, hp.out _ _ _ _ hq (h3 q)⟩
  have hset : Hid (∀ (W V : World) (v : Value) (l : List InoD), TabAt W nx l v V → Below w.heap.size w W → Blk W (w.heap.size + 1) 26 #[.slice none 0 0, .int .i64 0] → removeD nx ds s = (l, 0) → ∃ (b : Option Addr) (m cc : Nat), v = .agg #[.slice b m cc, .int .i64 nx] ∧ Blk V (w.heap.size + 1) 26 #[.slice none 0 0, .int .i64 0] ∧ P (.returned (.tuple #[.agg #[.slice b m cc, .int .i64 nx], .int .i64 0])) ((V.setCell ⟨w.heap.size + 1, 0, none⟩ (.slice b m cc)).setCell ⟨w.heap.size + 1, 1, none⟩ (.int .i64 nx))) := fun W V v l h hb hz hq => by
    obtain ⟨b, cc, js, rfl, hQ, hbV⟩ := h
    refine ⟨b, js.length, cc, rfl, hz.keep hbV, hp.out _ _ _ _ hq ?_⟩
    have := hQ.boxed (hb.trans (hbV.mono hb.size)) (R := w.heap.size + 1) (by omega) hz.lt (.slice b js.length cc) (.int .i64 nx)
    exact ⟨b, cc, js, rfl, this.1, this.2⟩
  go_enter Try.func116, Try.ntmps116
  go_wp2_with fail
  obtain ⟨W0, hW0⟩ : ∃ W, (w.alloc (.cells #[.slice a n cap, .int .i64 nx] 26)).alloc (.cells #[.slice none 0 0, .int .i64 0] 26) = W := ⟨_, rfl⟩
  rw [hW0] at B0 zT zR ⊢
  clear hW0 ht hds hdn
  have hpp := parentS s W0 hs
  refine hpp.mono ?_
  rintro e w1 ⟨bb1, rfl⟩
  clear hpp
  obtain ⟨P1, P2, P3, hP⟩ : ∃ P1 P2 P3, parentOf s.data.toList = (P1, P2, P3) := ⟨_, _, _, rfl⟩
  rw [hP] at hmd ⊢
  dsimp only at hmd ⊢
  have hB1 := B0.trans (bb1.mono B0.size)
  have zr1 := zR.keep bb1
  have zt1 := zT.keep bb1
  have t0 := zt1.cell 0
  have t1 := zt1.cell 1
  simp at t0 t1
  have hcT := treeS a n cap nx rs w1 (HT.out.keep hB1)
  rw [HDS.out] at hcT
  clear B0 zR zT bb1 hP
  go_wp2_with fail
  (with_reducible refine hcT.mono ?_)
  rintro e w2 ⟨rfl, bb2⟩
  clear hcT t0 t1
  have hB2 := hB1.trans (bb2.mono hB1.size)
  have zr2 := zr1.keep bb2
  have zt2 := zt1.keep bb2
  have t0 := zt2.cell 0
  have t1 := zt2.cell 1
  simp at t0 t1
  have hrl : w.heap.size + 1 < w2.heap.size := zr2.lt
  clear hB1 zr1 zt1 bb2
  cases htr : treeD nx ds with
  | false =>
    rw [htr, if_pos (.inl rfl)] at hmd
    have hcC := href.out w2 1 hB2 zr2 hmd
    clear hmd htr zr2 zt2
    go_wp2_with fail
    (with_reducible refine hcC.mono ?_)
    rintro e wz ⟨b, m, cc, rfl, zz, hPz⟩
    have HPP : Hid _ := hPz
    have HZZ : Hid _ := zz
    have rr0 := zz.cell 0
    have rr1 := zz.cell 1
    have rf0 := zz.frozen 0
    have rf1 := zz.frozen 1
    simp at rr0 rr1
    clear zz hPz hcC t0 t1
    go_wp2
    have zf := blk2 HZZ.out (.slice b m cc) (.int .i64 nx)
    have dd0 := zf.cell 0
    have dd1 := zf.cell 1
    simp at dd0 dd1
    refine bodyPost_ret (v := .tuple #[.agg #[.slice b m cc, .int .i64 nx], .int .i64 1]) (by simp [results, Try.f116, go_sem, dd0, dd1]) rfl ?_
    exact HPP.out

  | true =>
    have htd := treeD_parts htr
    have hok := tabD_ok htd.1
    cases P3 with
    | false =>
      rw [if_pos (.inr rfl)] at hmd
      have hcC := href.out w2 1 hB2 zr2 hmd
      clear hmd htr zr2 zt2
      go_wp2_with fail
      (with_reducible refine hcC.mono ?_)
      rintro e wz ⟨b, m, cc, rfl, zz, hPz⟩
      have HPP : Hid _ := hPz
      have HZZ : Hid _ := zz
      have rr0 := zz.cell 0
      have rr1 := zz.cell 1
      have rf0 := zz.frozen 0
      have rf1 := zz.frozen 1
      simp at rr0 rr1
      clear zz hPz hcC t0 t1
      go_wp2
      have zf := blk2 HZZ.out (.slice b m cc) (.int .i64 nx)
      have dd0 := zf.cell 0
      have dd1 := zf.cell 1
      simp at dd0 dd1
      refine bodyPost_ret (v := .tuple #[.agg #[.slice b m cc, .int .i64 nx], .int .i64 1]) (by simp [results, Try.f116, go_sem, dd0, dd1]) rfl ?_
      exact HPP.out

    | true =>
      rw [htr, if_neg (by simp)] at hmd
      have hcS := statS a n cap nx rs s w2 (HT.out.keep hB2) hs
      rw [HDS.out] at hcS
      obtain ⟨D, c, hDc⟩ : ∃ D c, statD ds s = (D, c) := ⟨_, _, rfl⟩
      rw [hDc] at hmd hcS
      dsimp only at hmd hcS
      have HDC : Hid _ := hDc
      have HB2 : Hid _ := hB2
      have HZR : Hid _ := zr2
      have HZT : Hid _ := zt2
      have HOK : Hid _ := hok
      clear htr htd hok hDc hB2 zr2 zt2
      go_wp2_with fail
      (with_reducible refine hcS.mono ?_)
      rintro e w3 ⟨b1, d1, b2, d2, b3, d3, rfl, g2, bb3⟩
      clear hcS t0 t1
      have hs23 := bb3.size
      have zr3 := (Blk.keep HZR.out bb3).alloc (.cells #[.int .i64 D.ino, .int .i64 D.kind, .int .i64 D.links, .slice b1 D.data.length d1, .slice b2 D.ents.length d2, .slice b3 D.attrs.length d3] 30)
      have zt3 := (Blk.keep HZT.out bb3).alloc (.cells #[.int .i64 D.ino, .int .i64 D.kind, .int .i64 D.links, .slice b1 D.data.length d1, .slice b2 D.ents.length d2, .slice b3 D.attrs.length d3] 30)
      have hb3' := HB2.out.trans (bb3.mono HB2.out.size)
      have hb3 := hb3'.alloc hb3'.size (.cells #[.int .i64 D.ino, .int .i64 D.kind, .int .i64 D.links, .slice b1 D.data.length d1, .slice b2 D.ents.length d2, .slice b3 D.attrs.length d3] 30)
      have zX := Blk.new w3 30 #[.int .i64 D.ino, .int .i64 D.kind, .int .i64 D.links, .slice b1 D.data.length d1, .slice b2 D.ents.length d2, .slice b3 D.attrs.length d3]
      have g3 := g2.keep (Nat.le_refl _) ((Below.refl _ w3).alloc (Nat.le_refl _) (.cells #[.int .i64 D.ino, .int .i64 D.kind, .int .i64 D.links, .slice b1 D.data.length d1, .slice b2 D.ents.length d2, .slice b3 D.attrs.length d3] 30))
      have hlt : w3.heap.size < (w3.alloc (.cells #[.int .i64 D.ino, .int .i64 D.kind, .int .i64 D.links, .slice b1 D.data.length d1, .slice b2 D.ents.length d2, .slice b3 D.attrs.length d3] 30)).heap.size := by simp
      obtain ⟨W3, hW3⟩ : ∃ W, w3.alloc (.cells #[.int .i64 D.ino, .int .i64 D.kind, .int .i64 D.links, .slice b1 D.data.length d1, .slice b2 D.ents.length d2, .slice b3 D.attrs.length d3] 30) = W := ⟨_, rfl⟩
      rw [hW3] at zr3 zt3 hb3 zX g3 hlt
      have t0 := zt3.cell 0
      have t1 := zt3.cell 1
      simp at t0 t1
      obtain ⟨x0, x1, x2, x3, x4, x5⟩ := zX.six
      clear hb3' g2 bb3
      by_cases hc0 : c = 0
      · subst hc0
        rw [if_neg (by simp)] at hmd
        have hDs : InoSmall D := HSm.out D (statD_mem HDC.out)
        by_cases hk2 : D.kind = 2
        · rw [if_neg (by simp [hk2])] at hmd
          have hkb : (D.kind != 2) = false := by simp [hk2]
          have hkb' : (D.kind == 2) = true := by simp [hk2]
          clear hk2
          by_cases hl0 : 0 < D.ents.length
          · rw [if_pos hl0] at hmd
            have hli : (0 : Int) < (D.ents.length : Int) := by omega
            have hlb := hDs.ents
            have hcC := href.out W3 6 hb3 zr3 hmd
            clear hmd zr3 zt3 hb3 zX g3 hl0
            go_wp2_with fail
            (with_reducible refine hcC.mono ?_)
            rintro e wz ⟨b, m, cc, rfl, zz, hPz⟩
            have HPP : Hid _ := hPz
            have HZZ : Hid _ := zz
            have rr0 := zz.cell 0
            have rr1 := zz.cell 1
            have rf0 := zz.frozen 0
            have rf1 := zz.frozen 1
            simp at rr0 rr1
            clear zz hPz hcC t0 t1 x0 x1 x2 x3 x4 x5
            go_wp2
            have zf := blk2 HZZ.out (.slice b m cc) (.int .i64 nx)
            have dd0 := zf.cell 0
            have dd1 := zf.cell 1
            simp at dd0 dd1
            refine bodyPost_ret (v := .tuple #[.agg #[.slice b m cc, .int .i64 nx], .int .i64 6]) (by simp [results, Try.f116, go_sem, dd0, dd1]) rfl ?_
            exact HPP.out

          · rw [if_neg hl0] at hmd
            have hli : ¬ (0 : Int) < (D.ents.length : Int) := by omega
            have hlb := hDs.ents
            have hcP := dropPS a n cap nx rs s W3.drew (HT.out.keep hb3.drew) hs
            rw [HDS.out] at hcP
            have HK : Hid (∀ W : World, Below W3.heap.size W3 W → (W.cell? ⟨w.heap.size, 0, none⟩ = some (.slice a n cap) ∧ W.cell? ⟨w.heap.size, 1, none⟩ = some (.int .i64 nx) ∧ W.cell? ⟨w3.heap.size, 0, none⟩ = some (.int .i64 D.ino)) ∧ Blk W (w.heap.size + 1) 26 #[.slice none 0 0, .int .i64 0]) := fun W hW => ⟨⟨(zt3.keep hW).cell 0, (zt3.keep hW).cell 1, (zX.keep hW).cell 0⟩, zr3.keep hW⟩
            have HB3 : Hid _ := hb3
            have HMF : Hid _ := hmd
            have hne1 : w.heap.size + 1 ≠ w3.heap.size := by omega
            have hne2 : w.heap.size + 1 ≠ w.heap.size := by omega
            clear zX zr3 hb3 g3 zt3 hmd hl0
            go_upto_region 11 with fail
            go_region_held3 (fun W : World => W.cell? ⟨w.heap.size, 0, none⟩ = some (.slice a n cap) ∧ W.cell? ⟨w.heap.size, 1, none⟩ = some (.int .i64 nx) ∧ W.cell? ⟨w3.heap.size, 0, none⟩ = some (.int .i64 D.ino)) (go_keep) (first
              | (go_at_call 149; (with_reducible refine hcP.mono ?_); rintro e w4 ⟨v, rfl, tA⟩; obtain ⟨ob, om, oc, rs4, rfl, hT4, hD4, b4⟩ := tA.trs (dropP_small HSm.out s) (by have := dropP_len ds s; have := HOK.out.2.1; omega); have bW4 : Below W3.heap.size W3 w4 := (Below.refl _ W3).drew.trans b4; obtain ⟨⟨k0, k1, k2⟩, zr4⟩ := HK.out w4 bW4; have hcF := dropT ob om oc nx D.ino rs4 w4 (hT4 w4 (Below.refl _ _)).1; rw [hD4] at hcF)
              | (go_at_call 150; (with_reducible refine hcF.mono ?_); rintro e wz ⟨v, rfl, tAz⟩; obtain ⟨b, m, cc, rfl, zz, hPz⟩ := hset.out _ _ _ _ tAz (HB3.out.trans (bW4.mono HB3.out.size)) zr4 HMF.out; have bz := tAz.below; obtain ⟨⟨l0, l1, l2⟩, _⟩ := HK.out wz (bW4.trans (bz.mono bW4.size)); have rr0 := zz.cell 0; have rr1 := zz.cell 1; have rf0 := zz.frozen 0; have rf1 := zz.frozen 1; simp at rr0 rr1)
              | fail)
            have HPP : Hid _ := hPz
            have HZZ : Hid _ := zz
            clear zz hPz hcF hcP t0 t1 x0 x1 x2 x3 x4 x5 k0 k1 k2 l0 l1 l2
            go_wp2
            have zf := blk2 HZZ.out (.slice b m cc) (.int .i64 nx)
            have dd0 := zf.cell 0
            have dd1 := zf.cell 1
            simp at dd0 dd1
            refine bodyPost_ret (v := .tuple #[.agg #[.slice b m cc, .int .i64 nx], .int .i64 0]) (by simp [results, Try.f116, go_sem, dd0, dd1]) rfl ?_
            exact HPP.out
        · rw [if_pos hk2] at hmd
          have hkb : (D.kind != 2) = true := by simpa using hk2
          have hkb' : (D.kind == 2) = false := by simpa using hk2
          have hcC := href.out W3 3 hb3 zr3 hmd
          clear hmd zr3 zt3 hb3 zX g3 hk2
          go_wp2_with fail
          (with_reducible refine hcC.mono ?_)
          rintro e wz ⟨b, m, cc, rfl, zz, hPz⟩
          have HPP : Hid _ := hPz
          have HZZ : Hid _ := zz
          have rr0 := zz.cell 0
          have rr1 := zz.cell 1
          have rf0 := zz.frozen 0
          have rf1 := zz.frozen 1
          simp at rr0 rr1
          clear zz hPz hcC t0 t1 x0 x1 x2 x3 x4 x5
          go_wp2
          have zf := blk2 HZZ.out (.slice b m cc) (.int .i64 nx)
          have dd0 := zf.cell 0
          have dd1 := zf.cell 1
          simp at dd0 dd1
          refine bodyPost_ret (v := .tuple #[.agg #[.slice b m cc, .int .i64 nx], .int .i64 3]) (by simp [results, Try.f116, go_sem, dd0, dd1]) rfl ?_
          exact HPP.out

      · rw [if_pos hc0] at hmd
        have hcC := href.out W3 c hb3 zr3 hmd
        have hcb : (c != 0) = true := by simpa using hc0
        have hcb' : (c == 0) = false := by simpa using hc0
        clear hmd zr3 zt3 hb3 zX g3
        go_wp2_with fail
        (with_reducible refine hcC.mono ?_)
        rintro e wz ⟨b, m, cc, rfl, zz, hPz⟩
        have HPP : Hid _ := hPz
        have HZZ : Hid _ := zz
        have rr0 := zz.cell 0
        have rr1 := zz.cell 1
        have rf0 := zz.frozen 0
        have rf1 := zz.frozen 1
        simp at rr0 rr1
        clear zz hPz hcC t0 t1 x0 x1 x2 x3 x4 x5
        go_wp2
        have zf := blk2 HZZ.out (.slice b m cc) (.int .i64 nx)
        have dd0 := zf.cell 0
        have dd1 := zf.cell 1
        simp at dd0 dd1
        refine bodyPost_ret (v := .tuple #[.agg #[.slice b m cc, .int .i64 nx], .int .i64 c]) (by simp [results, Try.f116, go_sem, dd0, dd1]) rfl ?_
        exact HPP.out
end Go.Proofs.Ytgcmpimckpnemaa
