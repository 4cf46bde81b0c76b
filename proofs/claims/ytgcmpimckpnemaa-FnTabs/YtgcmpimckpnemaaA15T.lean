/-
  Joined: Link6, Rename6.
-/
import Derived.Test.YtgcmpimckpnemaaUnlink6T
namespace Go.Proofs.Ytgcmpimckpnemaa
section
open Go.RowKit
theorem splitB (s : ByteArray) (w : World) (hs : s.size ≤ 4000000) : Calls Try.prog 146 #[.string s] w fun e w' => ∃ (a : Option Addr) (m c : Nat), e = .returned (.tuple #[.slice a m c, .bool (splitOf s.data.toList).isSome]) ∧ Below w.heap.size w w' :=
  (splitS s w hs).mono fun e w' h => by
    rcases h with ⟨hb, ⟨hn, a, c, he⟩ | ⟨zs, g, c, hz, he, _, _⟩⟩
    · exact ⟨a, 0, c, by rw [he, hn]; rfl, hb⟩
    · exact ⟨_, _, c, by rw [he, hz]; rfl, hb⟩
def linkD (nx : Int) (ds : List InoD) (s tp : ByteArray) : List InoD × Int :=
  if treeD nx ds = false ∨ (splitOf s.data.toList).isSome = false ∨ (parentOf tp.data.toList).2.2 = false then (ds, 1)
  else if (fileD ds s).2 ≠ 0 then (ds, (fileD ds s).2)
  else if (spotD ds tp 0).2.2 ≠ 0 then (ds, (spotD ds tp 0).2.2)
  else (setD (setD ds { (fileD ds s).1 with links := (fileD ds s).1.links + 1 }) { (spotD ds tp 0).1 with ents := insBy (fun q => gtS (spotD ds tp 0).2.1 q.1) (spotD ds tp 0).1.ents ((spotD ds tp 0).2.1, (fileD ds s).1.ino) }, 0)
set_option maxRecDepth 100000 in
set_option maxHeartbeats 8000000 in
theorem linkS (a : Option Addr) (n cap : Nat) (nx : Int) (rs : List InoR) (s tp : ByteArray) (w : World) (ht : TR w a n rs) (hs : s.size ≤ 4000000) (hto : tp.size ≤ 4000000) :
    Calls Try.prog 114 #[.agg #[.slice a n cap, .int .i64 nx], .string s, .string tp] w fun e w' => TabC w nx (linkD nx (rs.map InoR.D) s tp).1 (linkD nx (rs.map InoR.D) s tp).2 e w' := by
  have B0 : Below w.heap.size w ((w.alloc (.cells #[.slice a n cap, .int .i64 nx] 26)).alloc (.cells #[.slice none 0 0, .int .i64 0] 26)) := ((Below.refl _ w).alloc (Nat.le_refl _) _).alloc (by simp) _
  have zT : Blk ((w.alloc (.cells #[.slice a n cap, .int .i64 nx] 26)).alloc (.cells #[.slice none 0 0, .int .i64 0] 26)) w.heap.size 26 #[.slice a n cap, .int .i64 nx] := (Blk.new w _ _).alloc _
  have zR := Blk.new (w.alloc (.cells #[.slice a n cap, .int .i64 nx] 26)) 26 #[.slice none 0 0, .int .i64 0]
  simp only [World.size_alloc] at zR
  obtain ⟨ds, hds⟩ : ∃ ds, rs.map InoR.D = ds := ⟨_, rfl⟩
  have hdn : ds.length = n := by rw [← hds, List.length_map, ht.len]
  have hp : Hid (∀ (e : Ending) (w' : World) (l : List InoD) (q : Int), linkD nx ds s tp = (l, q) → TabC w nx l q e w' → TabC w nx (linkD nx ds s tp).1 (linkD nx ds s tp).2 e w') := fun e w' l q h hh => by rw [h]; exact hh
  rw [hds]
  generalize TabC w nx (linkD nx ds s tp).1 (linkD nx ds s tp).2 = P at hp ⊢
  have hmd : linkD nx ds s tp = linkD nx ds s tp := rfl
  conv at hmd => rhs; unfold linkD
  have HDS : Hid _ := hds
  have HDN : Hid _ := hdn
  have HT : Hid _ := ht
  have HSm : Hid (∀ F ∈ ds, InoSmall F) := by
    intro F hF
    exact ht.smallD F (by rw [hds]; exact hF)
  have hn1 := ht.n
  have href : Hid (∀ (W : World) (q : Int), Below w.heap.size w W → Blk W (w.heap.size + 1) 26 #[.slice none 0 0, .int .i64 0] → linkD nx ds s tp = (ds, q) → Calls Try.prog 41 #[.agg #[.slice a n cap, .int .i64 nx]] W fun e V => ∃ (b : Option Addr) (m cc : Nat), e = .returned (.agg #[.slice b m cc, .int .i64 nx]) ∧ Blk V (w.heap.size + 1) 26 #[.slice none 0 0, .int .i64 0] ∧ P (.returned (.tuple #[.agg #[.slice b m cc, .int .i64 nx], .int .i64 q])) ((V.setCell ⟨w.heap.size + 1, 0, none⟩ (.slice b m cc)).setCell ⟨w.heap.size + 1, 1, none⟩ (.int .i64 nx))) := fun W q hb hz hq => by
    have hT := HT.out.keep hb
    refine (l4CopyS a n cap nx rs W hT.len hT.n hT.small hT.rd).mono fun e V h => ?_
    obtain ⟨b, m, cc, h1, h2, h3⟩ := copyC h hb (Nat.le_succ _) hz
    rw [HDS.out] at h3
    exact ⟨b, m, cc, h1, h2, hp.out _ _ _ _ hq (h3 q)⟩
  have hset : Hid (∀ (W V : World) (v : Value) (l : List InoD), TabAt W nx l v V → Below w.heap.size w W → Blk W (w.heap.size + 1) 26 #[.slice none 0 0, .int .i64 0] → linkD nx ds s tp = (l, 0) → ∃ (b : Option Addr) (m cc : Nat), v = .agg #[.slice b m cc, .int .i64 nx] ∧ Blk V (w.heap.size + 1) 26 #[.slice none 0 0, .int .i64 0] ∧ P (.returned (.tuple #[.agg #[.slice b m cc, .int .i64 nx], .int .i64 0])) ((V.setCell ⟨w.heap.size + 1, 0, none⟩ (.slice b m cc)).setCell ⟨w.heap.size + 1, 1, none⟩ (.int .i64 nx))) := fun W V v l h hb hz hq => by
    obtain ⟨b, cc, js, rfl, hQ, hbV⟩ := h
    refine ⟨b, js.length, cc, rfl, hz.keep hbV, hp.out _ _ _ _ hq ?_⟩
    have := hQ.boxed (hb.trans (hbV.mono hb.size)) (R := w.heap.size + 1) (by omega) hz.lt (.slice b js.length cc) (.int .i64 nx)
    exact ⟨b, cc, js, rfl, this.1, this.2⟩
  go_enter Try.func114, Try.ntmps114
  go_wp2_with fail
  obtain ⟨W0, hW0⟩ : ∃ W, (w.alloc (.cells #[.slice a n cap, .int .i64 nx] 26)).alloc (.cells #[.slice none 0 0, .int .i64 0] 26) = W := ⟨_, rfl⟩
  rw [hW0] at B0 zT zR ⊢
  clear hW0 ht hds hdn
  have hsp := splitB s W0 hs
  refine hsp.mono ?_
  rintro e w1 ⟨sa, sm, sc, rfl, bb1⟩
  clear hsp
  generalize (splitOf s.data.toList).isSome = K1 at hmd ⊢
  have hB0 := B0
  have zr0 := zR
  have zt0 := zT
  clear B0 zR zT
  have hB1 := hB0.trans (bb1.mono hB0.size)
  have zr1 := zr0.keep bb1
  have zt1 := zt0.keep bb1
  clear hB0 zr0 zt0 bb1

  have hpp := parentS tp w1 hto
  go_wp2_with fail
  refine hpp.mono ?_
  rintro e w2 ⟨bb2, rfl⟩
  clear hpp
  obtain ⟨P1, P2, P3, hP⟩ : ∃ P1 P2 P3, parentOf tp.data.toList = (P1, P2, P3) := ⟨_, _, _, rfl⟩
  rw [hP] at hmd ⊢
  dsimp only at hmd ⊢
  have hB2 := hB1.trans (bb2.mono hB1.size)
  have zr2 := zr1.keep bb2
  have zt2 := zt1.keep bb2
  clear hB1 zr1 zt1 bb2

  have t0 := zt2.cell 0
  have t1 := zt2.cell 1
  simp at t0 t1
  have hcT := treeS a n cap nx rs w2 (HT.out.keep hB2)
  rw [HDS.out] at hcT
  clear hP
  go_wp2_with fail
  (with_reducible refine hcT.mono ?_)
  rintro e w3 ⟨rfl, bb3⟩
  clear hcT t0 t1
  have hB3 := hB2.trans (bb3.mono hB2.size)
  have zr3 := zr2.keep bb3
  have zt3 := zt2.keep bb3
  clear hB2 zr2 zt2 bb3

  have t0 := zt3.cell 0
  have t1 := zt3.cell 1
  simp at t0 t1
  have hrl : w.heap.size + 1 < w3.heap.size := zr3.lt
  by_cases hbad : treeD nx ds = false ∨ K1 = false ∨ P3 = false
  · rw [if_pos hbad] at hmd
    have hcC := href.out w3 1 hB3 zr3 hmd
    clear hmd zr3 zt3
    cases htr : treeD nx ds with
    | false =>
      go_wp2_with fail
      (with_reducible refine hcC.mono ?_)
      rintro e wz ⟨b, m, cc, rfl, zz, hPz⟩
      have HPP : Hid _ := hPz
      have HZZ : Hid _ := zz
      have rr0 := zz.cell 0
      have rr1 := zz.cell 1
      have rf0 := zz.frozen 0
      have rf1 := zz.frozen 1
      simp at rr0 rr1
      clear zz hPz hcC t0 t1
      go_wp2
      have zf := blk2 HZZ.out (.slice b m cc) (.int .i64 nx)
      have dd0 := zf.cell 0
      have dd1 := zf.cell 1
      simp at dd0 dd1
      refine bodyPost_ret (v := .tuple #[.agg #[.slice b m cc, .int .i64 nx], .int .i64 1]) (by simp [results, Try.f114, go_sem, dd0, dd1]) rfl ?_
      exact HPP.out

    | true =>
      rw [htr] at hbad
      cases K1 with
      | false =>
        go_wp2_with fail
        (with_reducible refine hcC.mono ?_)
        rintro e wz ⟨b, m, cc, rfl, zz, hPz⟩
        have HPP : Hid _ := hPz
        have HZZ : Hid _ := zz
        have rr0 := zz.cell 0
        have rr1 := zz.cell 1
        have rf0 := zz.frozen 0
        have rf1 := zz.frozen 1
        simp at rr0 rr1
        clear zz hPz hcC t0 t1
        go_wp2
        have zf := blk2 HZZ.out (.slice b m cc) (.int .i64 nx)
        have dd0 := zf.cell 0
        have dd1 := zf.cell 1
        simp at dd0 dd1
        refine bodyPost_ret (v := .tuple #[.agg #[.slice b m cc, .int .i64 nx], .int .i64 1]) (by simp [results, Try.f114, go_sem, dd0, dd1]) rfl ?_
        exact HPP.out

      | true =>
        obtain rfl : P3 = false := by simpa using hbad
        go_wp2_with fail
        (with_reducible refine hcC.mono ?_)
        rintro e wz ⟨b, m, cc, rfl, zz, hPz⟩
        have HPP : Hid _ := hPz
        have HZZ : Hid _ := zz
        have rr0 := zz.cell 0
        have rr1 := zz.cell 1
        have rf0 := zz.frozen 0
        have rf1 := zz.frozen 1
        simp at rr0 rr1
        clear zz hPz hcC t0 t1
        go_wp2
        have zf := blk2 HZZ.out (.slice b m cc) (.int .i64 nx)
        have dd0 := zf.cell 0
        have dd1 := zf.cell 1
        simp at dd0 dd1
        refine bodyPost_ret (v := .tuple #[.agg #[.slice b m cc, .int .i64 nx], .int .i64 1]) (by simp [results, Try.f114, go_sem, dd0, dd1]) rfl ?_
        exact HPP.out

  · rw [if_neg hbad] at hmd
    obtain ⟨htr, rfl, rfl⟩ : treeD nx ds = true ∧ K1 = true ∧ P3 = true := by simpa using hbad
    have hok := tabD_ok (treeD_parts htr).1
    rw [htr]
    have hcS := fileS a n cap nx rs s w3 (HT.out.keep hB3) hs
    rw [HDS.out] at hcS
    obtain ⟨D, c, hDc⟩ : ∃ D c, fileD ds s = (D, c) := ⟨_, _, rfl⟩
    rw [hDc] at hmd hcS
    dsimp only at hmd hcS
    have HDC : Hid _ := hDc
    have HOK : Hid _ := hok
    clear htr hbad hok hDc
    go_wp2_with fail
    (with_reducible refine hcS.mono ?_)
    rintro e w4 ⟨b1, d1, b2, d2, b3, d3, rfl, g4, bb4⟩
    clear hcS t0 t1
    have hs34 := bb4.size
    have zr4 := (zr3.keep bb4).alloc (.cells #[.int .i64 D.ino, .int .i64 D.kind, .int .i64 D.links, .slice b1 D.data.length d1, .slice b2 D.ents.length d2, .slice b3 D.attrs.length d3] 30)
    have zt4 := (zt3.keep bb4).alloc (.cells #[.int .i64 D.ino, .int .i64 D.kind, .int .i64 D.links, .slice b1 D.data.length d1, .slice b2 D.ents.length d2, .slice b3 D.attrs.length d3] 30)
    have hb4' := hB3.trans (bb4.mono hB3.size)
    have hb4 := hb4'.alloc hb4'.size (.cells #[.int .i64 D.ino, .int .i64 D.kind, .int .i64 D.links, .slice b1 D.data.length d1, .slice b2 D.ents.length d2, .slice b3 D.attrs.length d3] 30)
    have zX := Blk.new w4 30 #[.int .i64 D.ino, .int .i64 D.kind, .int .i64 D.links, .slice b1 D.data.length d1, .slice b2 D.ents.length d2, .slice b3 D.attrs.length d3]
    have g5 := g4.keep (Nat.le_refl _) ((Below.refl _ w4).alloc (Nat.le_refl _) (.cells #[.int .i64 D.ino, .int .i64 D.kind, .int .i64 D.links, .slice b1 D.data.length d1, .slice b2 D.ents.length d2, .slice b3 D.attrs.length d3] 30))
    have hlt : w4.heap.size < (w4.alloc (.cells #[.int .i64 D.ino, .int .i64 D.kind, .int .i64 D.links, .slice b1 D.data.length d1, .slice b2 D.ents.length d2, .slice b3 D.attrs.length d3] 30)).heap.size := by simp
    obtain ⟨W4, hW4⟩ : ∃ W, w4.alloc (.cells #[.int .i64 D.ino, .int .i64 D.kind, .int .i64 D.links, .slice b1 D.data.length d1, .slice b2 D.ents.length d2, .slice b3 D.attrs.length d3] 30) = W := ⟨_, rfl⟩
    rw [hW4] at zr4 zt4 hb4 zX g5 hlt
    have t0 := zt4.cell 0
    have t1 := zt4.cell 1
    simp at t0 t1
    clear hb4' g4 bb4 hB3 zr3 zt3
    by_cases hc0 : c = 0
    · subst hc0
      rw [if_neg (by simp)] at hmd
      obtain ⟨hDm, _⟩ := fileD_mem HDC.out
      have hDl : D.links ≤ 1000 ∧ 0 ≤ D.links := by
        have h1 := (HOK.out.2.2.2.2.1 D hDm).1
        unfold inoOk at h1
        simp only [Bool.and_eq_true, decide_eq_true_eq] at h1
        omega
      have hDs : InoSmall D := HSm.out D hDm
      have hcY := spotS a n cap nx rs tp 0 W4 (HT.out.keep hb4) hto
      rw [HDS.out] at hcY
      obtain ⟨Y, nm, q, hYq⟩ : ∃ Y nm q, spotD ds tp 0 = (Y, nm, q) := ⟨_, _, _, rfl⟩
      rw [hYq] at hcY hmd
      dsimp only at hcY hmd
      have HYQ : Hid _ := hYq
      have HZX : Hid _ := zX
      have HZ4 : Hid _ := zr4
      have HZT : Hid _ := zt4
      have HB4 : Hid _ := hb4
      have HG5 : Hid _ := g5
      clear hYq zX zr4 zt4 hb4 g5
      go_wp2_with fail
      (with_reducible refine hcY.mono ?_)
      rintro e w5 ⟨f1, h1, f2, h2, f3, h3, rfl, gY, bb5⟩
      clear hcY t0 t1
      have hs45 := bb5.size
      have bN : Below w5.heap.size w5 (w5.alloc (.cells #[.int .i64 Y.ino, .int .i64 Y.kind, .int .i64 Y.links, .slice f1 Y.data.length h1, .slice f2 Y.ents.length h2, .slice f3 Y.attrs.length h3] 30)) := (Below.refl _ w5).alloc (Nat.le_refl _) _
      have b5 := bb5.trans (bN.mono hs45)
      have zY := Blk.new w5 30 #[.int .i64 Y.ino, .int .i64 Y.kind, .int .i64 Y.links, .slice f1 Y.data.length h1, .slice f2 Y.ents.length h2, .slice f3 Y.attrs.length h3]
      have gY5 := gY.keep (Nat.le_refl _) bN
      have hltY : w5.heap.size < (w5.alloc (.cells #[.int .i64 Y.ino, .int .i64 Y.kind, .int .i64 Y.links, .slice f1 Y.data.length h1, .slice f2 Y.ents.length h2, .slice f3 Y.attrs.length h3] 30)).heap.size := by simp
      obtain ⟨W5, hW5⟩ : ∃ W, w5.alloc (.cells #[.int .i64 Y.ino, .int .i64 Y.kind, .int .i64 Y.links, .slice f1 Y.data.length h1, .slice f2 Y.ents.length h2, .slice f3 Y.attrs.length h3] 30) = W := ⟨_, rfl⟩
      rw [hW5] at b5 zY gY5 hltY
      have zr5 := Blk.keep HZ4.out b5
      have zt5 := Blk.keep HZT.out b5
      have zX5 := Blk.keep HZX.out b5
      have hB5 := HB4.out.trans (b5.mono HB4.out.size)
      have gX5 := InoG.keep HG5.out (Nat.le_of_lt hlt) b5
      have t0 := zt5.cell 0
      have t1 := zt5.cell 1
      simp at t0 t1
      obtain ⟨x0, x1, x2, x3, x4, x5⟩ := zX5.six
      clear gY bb5 bN
      by_cases hq0 : q = 0
      · subst hq0
        rw [if_neg (by simp)] at hmd
        obtain ⟨hYm, hnm⟩ := spot_mem HYQ.out
        have hYs : InoSmall Y := HSm.out Y hYm
        have hY10 := (entsOk_at (ok_parts (HOK.out.2.2.2.2.1 Y hYm).1).2.2.1).1
        have hwk : IntKind.i64.wrap (D.links + 1) = D.links + 1 := wrap_small _ (by omega) (by omega)
        have xf2 := zX5.frozen 2
        have gX := gr_setC W5 w4.heap.size 2 (.int .i64 (D.links + 1))
        have zX6 : Blk (W5.setCell ⟨w4.heap.size, 2, none⟩ (.int .i64 (D.links + 1))) w4.heap.size 30 #[.int .i64 D.ino, .int .i64 D.kind, .int .i64 (D.links + 1), .slice b1 D.data.length d1, .slice b2 D.ents.length d2, .slice b3 D.attrs.length d3] := zX5.set 2 _
        have zY6 := zY.kept gX (by omega)
        have zr6 := zr5.kept gX (by omega)
        have zt6 := zt5.kept gX (by omega)
        have hB6 := hB5.setCell (p := ⟨w4.heap.size, 2, none⟩) (by show w.heap.size ≤ w4.heap.size; omega) (.int .i64 (D.links + 1))
        have gX6 : InoG (W5.setCell ⟨w4.heap.size, 2, none⟩ (.int .i64 (D.links + 1))) w3.heap.size w4.heap.size D (.slice b1 D.data.length d1) (.slice b2 D.ents.length d2) (.slice b3 D.attrs.length d3) := gX5.kept fun k h1 h2 => gX.block k (by have := b5.size; omega) (by simp; omega)
        have gY6 : InoG (W5.setCell ⟨w4.heap.size, 2, none⟩ (.int .i64 (D.links + 1))) W4.heap.size w5.heap.size Y (.slice f1 Y.data.length h1) (.slice f2 Y.ents.length h2) (.slice f3 Y.attrs.length h3) := gY5.kept fun k h1 h2 => gX.block k (by omega) (by simp; omega)
        have y4 := zY6.cell 4
        have z0 := zX6.cell 0
        simp at y4 z0
        have hcP := l6PutS f2 Y.ents.length h2 Y.ents nm D.ino (W5.setCell ⟨w4.heap.size, 2, none⟩ (.int .i64 (D.links + 1))) rfl (by omega) gY6.rds.ents
        have hsz6 : (W5.setCell ⟨w4.heap.size, 2, none⟩ (.int .i64 (D.links + 1))).heap.size = W5.heap.size := by simp [World.setCell]
        obtain ⟨W6, hW6⟩ : ∃ W, W5.setCell ⟨w4.heap.size, 2, none⟩ (.int .i64 (D.links + 1)) = W := ⟨_, rfl⟩
        rw [hW6] at zX6 zY6 zr6 zt6 hB6 gX6 gY6 y4 z0 hcP hsz6
        have HS6 : Hid _ := hsz6
        have HMD : Hid _ := hmd
        clear zX5 zY zr5 zt5 hB5 gX5 gY5 gX t0 t1 hmd hDm hYm hsz6 b5
        go_wp2_with fail
        (with_reducible refine hcP.mono ?_)
        rintro e w7 ⟨g7, c7, rfl, o7, b7⟩
        clear hcP y4 z0 x0 x1 x2 x3 x4 x5 xf2
        have hs67 := b7.size
        have hs6 := HS6.out
        have hg7 := (World.ownsRow.lt o7 g7 rfl).1
        have gY := gr_setC w7 w5.heap.size 4 (.slice (some ⟨g7, 0, none⟩) (Y.ents.length + 1) c7)
        have y4 := (zY6.keep b7).cell 4
        have yf := (zY6.keep b7).frozen 4
        simp at y4
        have zY8 : Blk (w7.setCell ⟨w5.heap.size, 4, none⟩ (.slice (some ⟨g7, 0, none⟩) (Y.ents.length + 1) c7)) w5.heap.size 30 #[.int .i64 Y.ino, .int .i64 Y.kind, .int .i64 Y.links, .slice f1 Y.data.length h1, .slice (some ⟨g7, 0, none⟩) (Y.ents.length + 1) c7, .slice f3 Y.attrs.length h3] := (zY6.keep b7).set 4 _
        have zX8 := (zX6.keep b7).kept gY (by omega)
        have zr8 := (zr6.keep b7).kept gY (by omega)
        have zt8 := (zt6.keep b7).kept gY (by omega)
        have o8 := row_kept o7 gY (fun z hz e => by simp [Value.ownBlock] at hz; simp at e; omega)
        have gX8 : InoG (w7.setCell ⟨w5.heap.size, 4, none⟩ (.slice (some ⟨g7, 0, none⟩) (Y.ents.length + 1) c7)) w3.heap.size w4.heap.size D (.slice b1 D.data.length d1) (.slice b2 D.ents.length d2) (.slice b3 D.attrs.length d3) := (gX6.keep (by omega) b7).kept fun k h1 h2 => gY.block k (by omega) (by simp; omega)
        have gY8 : InoG (w7.setCell ⟨w5.heap.size, 4, none⟩ (.slice (some ⟨g7, 0, none⟩) (Y.ents.length + 1) c7)) W4.heap.size w5.heap.size Y (.slice f1 Y.data.length h1) (.slice f2 Y.ents.length h2) (.slice f3 Y.attrs.length h3) := (gY6.keep (by omega) b7).kept fun k h1 h2 => gY.block k (by omega) (by simp; omega)
        have hB8 : Below w.heap.size w (w7.setCell ⟨w5.heap.size, 4, none⟩ (.slice (some ⟨g7, 0, none⟩) (Y.ents.length + 1) c7)) := (hB6.trans (b7.mono hB6.size)).setCell (p := ⟨w5.heap.size, 4, none⟩) (by show w.heap.size ≤ w5.heap.size; omega) _
        obtain ⟨E, hE⟩ : ∃ E, ({ D with links := D.links + 1 } : InoD) = E := ⟨_, rfl⟩
        obtain ⟨F, hF⟩ : ∃ F, ({ Y with ents := insBy (fun q => gtS nm q.1) Y.ents (nm, D.ino) } : InoD) = F := ⟨_, rfl⟩
        have hEr : InoRd (w7.setCell ⟨w5.heap.size, 4, none⟩ (.slice (some ⟨g7, 0, none⟩) (Y.ents.length + 1) c7)) E b1 b2 b3 := by
          rw [← hE]
          exact ⟨gX8.rds.data, gX8.rds.byt, gX8.rds.ents, gX8.rds.attrs⟩
        have hFr : InoRd (w7.setCell ⟨w5.heap.size, 4, none⟩ (.slice (some ⟨g7, 0, none⟩) (Y.ents.length + 1) c7)) F f1 (some ⟨g7, 0, none⟩) f3 := by
          rw [← hF]
          exact ⟨gY8.rds.data, gY8.rds.byt, (show OwnP 67 _ g7 _ c7 _ from row_lower o8 (Nat.zero_le _)).rd, gY8.rds.attrs⟩
        have hEs : InoSmall E := by rw [← hE]; exact ⟨hDs.data, hDs.ents, hDs.attrs, hDs.entsz, hDs.attrsz⟩
        have hFs : InoSmall F := by
          rw [← hF]
          refine ⟨hYs.data, ?_, hYs.attrs, fun q hq => ?_, hYs.attrsz⟩
          · show (insBy _ _ _).length ≤ _
            rw [insBy_len]
            omega
          · rcases insBy_mem.1 hq with rfl | hq
            · show nm.size ≤ _
              omega
            · exact hYs.entsz q hq
        have e1 : D.ino = E.ino ∧ D.kind = E.kind ∧ D.links + 1 = E.links ∧ D.data.length = E.data.length ∧ D.ents.length = E.ents.length ∧ D.attrs.length = E.attrs.length := by rw [← hE]; exact ⟨rfl, rfl, rfl, rfl, rfl, rfl⟩
        have e2 : Y.ino = F.ino ∧ Y.kind = F.kind ∧ Y.links = F.links ∧ Y.data.length = F.data.length ∧ Y.ents.length + 1 = F.ents.length ∧ Y.attrs.length = F.attrs.length := by rw [← hF]; exact ⟨rfl, rfl, rfl, rfl, (insBy_len _ _ _).symm, rfl⟩
        have HMF : Hid (linkD nx ds s tp = (setD (setD ds E) F, 0)) := by show _ = _; rw [HMD.out, hE, hF]
        have hc1 := setT a n cap nx rs E b1 b2 b3 d1 d2 d3 (w7.setCell ⟨w5.heap.size, 4, none⟩ (.slice (some ⟨g7, 0, none⟩) (Y.ents.length + 1) c7)).drew (HT.out.keep hB8.drew) hEs (hEr.keep (Below.refl _ _).drew)
        rw [HDS.out, ← e1.1, ← e1.2.1, ← e1.2.2.1, ← e1.2.2.2.1, ← e1.2.2.2.2.1, ← e1.2.2.2.2.2] at hc1
        have HK : Hid (∀ W : World, Below (w7.setCell ⟨w5.heap.size, 4, none⟩ (.slice (some ⟨g7, 0, none⟩) (Y.ents.length + 1) c7)).heap.size (w7.setCell ⟨w5.heap.size, 4, none⟩ (.slice (some ⟨g7, 0, none⟩) (Y.ents.length + 1) c7)) W → (W.cell? ⟨w.heap.size, 0, none⟩ = some (.slice a n cap) ∧ W.cell? ⟨w.heap.size, 1, none⟩ = some (.int .i64 nx) ∧ W.cell? ⟨w4.heap.size, 0, none⟩ = some (.int .i64 D.ino) ∧ W.cell? ⟨w4.heap.size, 1, none⟩ = some (.int .i64 D.kind) ∧ W.cell? ⟨w4.heap.size, 2, none⟩ = some (.int .i64 (D.links + 1)) ∧ W.cell? ⟨w4.heap.size, 3, none⟩ = some (.slice b1 D.data.length d1) ∧ W.cell? ⟨w4.heap.size, 4, none⟩ = some (.slice b2 D.ents.length d2) ∧ W.cell? ⟨w4.heap.size, 5, none⟩ = some (.slice b3 D.attrs.length d3) ∧ W.cell? ⟨w5.heap.size, 0, none⟩ = some (.int .i64 Y.ino) ∧ W.cell? ⟨w5.heap.size, 1, none⟩ = some (.int .i64 Y.kind) ∧ W.cell? ⟨w5.heap.size, 2, none⟩ = some (.int .i64 Y.links) ∧ W.cell? ⟨w5.heap.size, 3, none⟩ = some (.slice f1 Y.data.length h1) ∧ W.cell? ⟨w5.heap.size, 4, none⟩ = some (.slice (some ⟨g7, 0, none⟩) (Y.ents.length + 1) c7) ∧ W.cell? ⟨w5.heap.size, 5, none⟩ = some (.slice f3 Y.attrs.length h3)) ∧ Blk W (w.heap.size + 1) 26 #[.slice none 0 0, .int .i64 0] ∧ InoRd W F f1 (some ⟨g7, 0, none⟩) f3) := fun W hW => by
          have p := zX8.keep hW
          have r := zY8.keep hW
          have u := zt8.keep hW
          exact ⟨⟨u.cell 0, u.cell 1, p.cell 0, p.cell 1, p.cell 2, p.cell 3, p.cell 4, p.cell 5, r.cell 0, r.cell 1, r.cell 2, r.cell 3, r.cell 4, r.cell 5⟩, zr8.keep hW, hFr.keep hW⟩
        have HE2 : Hid _ := e2
        have HFs : Hid _ := hFs
        have HEs : Hid _ := hEs
        have HB8 : Hid _ := hB8
        have hne1 : w.heap.size + 1 ≠ w4.heap.size := by omega
        have hne2 : w.heap.size + 1 ≠ w.heap.size := by omega
        have hne3 : w.heap.size + 1 ≠ w5.heap.size := by omega
        obtain ⟨W8, hW8⟩ : ∃ W, w7.setCell ⟨w5.heap.size, 4, none⟩ (.slice (some ⟨g7, 0, none⟩) (Y.ents.length + 1) c7) = W := ⟨_, rfl⟩
        rw [hW8] at hc1 HK HB8
        clear zX6 zY6 zr6 zt6 hB6 gX6 gY6 o7 b7 gY zY8 zX8 zr8 zt8 o8 gX8 gY8 hB8 hE hF hEr hFr hEs hFs e1 e2 HMD hs6 hs67
        go_upto_region 13 with fail
        obtain ⟨⟨k0, k1, k2, k3, k4, k5, k6, k7, k8, k9, k10, k11, k12, k13⟩, _, _⟩ := HK.out W8 (Below.refl _ _)
        clear y4 yf
        go_region_held3 (fun W : World => W.cell? ⟨w.heap.size, 0, none⟩ = some (.slice a n cap) ∧ W.cell? ⟨w.heap.size, 1, none⟩ = some (.int .i64 nx) ∧ W.cell? ⟨w4.heap.size, 0, none⟩ = some (.int .i64 D.ino) ∧ W.cell? ⟨w4.heap.size, 1, none⟩ = some (.int .i64 D.kind) ∧ W.cell? ⟨w4.heap.size, 2, none⟩ = some (.int .i64 (D.links + 1)) ∧ W.cell? ⟨w4.heap.size, 3, none⟩ = some (.slice b1 D.data.length d1) ∧ W.cell? ⟨w4.heap.size, 4, none⟩ = some (.slice b2 D.ents.length d2) ∧ W.cell? ⟨w4.heap.size, 5, none⟩ = some (.slice b3 D.attrs.length d3) ∧ W.cell? ⟨w5.heap.size, 0, none⟩ = some (.int .i64 Y.ino) ∧ W.cell? ⟨w5.heap.size, 1, none⟩ = some (.int .i64 Y.kind) ∧ W.cell? ⟨w5.heap.size, 2, none⟩ = some (.int .i64 Y.links) ∧ W.cell? ⟨w5.heap.size, 3, none⟩ = some (.slice f1 Y.data.length h1) ∧ W.cell? ⟨w5.heap.size, 4, none⟩ = some (.slice (some ⟨g7, 0, none⟩) (Y.ents.length + 1) c7) ∧ W.cell? ⟨w5.heap.size, 5, none⟩ = some (.slice f3 Y.attrs.length h3)) (go_keep) (first
          | (go_at_call 14; (with_reducible refine hc1.mono ?_); rintro e V1 ⟨v, rfl, tA⟩; obtain ⟨ob, om, oc, rs4, rfl, hT4, hD4, b4⟩ := tA.trs (setD_small HSm.out HEs.out) (by have := setD_len ds E; have := HOK.out.2.1; omega); have bW4 : Below W8.heap.size W8 V1 := (Below.refl _ W8).drew.trans b4; obtain ⟨⟨l0, l1, l2, l3, l4, l5, l6, l7, l8, l9, l10, l11, l12, l13⟩, zr9, rF9⟩ := HK.out V1 bW4; have hc2 := setT ob om oc nx rs4 F f1 (some ⟨g7, 0, none⟩) f3 h1 c7 h3 V1 (hT4 V1 (Below.refl _ _)).1 HFs.out rF9; rw [hD4, ← HE2.out.1, ← HE2.out.2.1, ← HE2.out.2.2.1, ← HE2.out.2.2.2.1, ← HE2.out.2.2.2.2.1, ← HE2.out.2.2.2.2.2] at hc2)
          | (go_at_call 14; (with_reducible refine hc2.mono ?_); rintro e wz ⟨v, rfl, tAz⟩; obtain ⟨b, m, cc, rfl, zz, hPz⟩ := hset.out _ _ _ _ tAz (HB8.out.trans (bW4.mono HB8.out.size)) zr9 HMF.out; have bz := tAz.below; obtain ⟨⟨m0, m1, m2, m3, m4, m5, m6, m7, m8, m9, m10, m11, m12, m13⟩, _, _⟩ := HK.out wz (bW4.trans (bz.mono bW4.size)); have rr0 := zz.cell 0; have rr1 := zz.cell 1; have rf0 := zz.frozen 0; have rf1 := zz.frozen 1; simp at rr0 rr1)
          | fail)
        have HPP : Hid _ := hPz
        have HZZ : Hid _ := zz
        clear zz hPz hc1 hc2 k0 k1 k2 k3 k4 k5 k6 k7 k8 k9 k10 k11 k12 k13 l0 l1 l2 l3 l4 l5 l6 l7 l8 l9 l10 l11 l12 l13 m0 m1 m2 m3 m4 m5 m6 m7 m8 m9 m10 m11 m12 m13
        go_wp2
        have zf := blk2 HZZ.out (.slice b m cc) (.int .i64 nx)
        have dd0 := zf.cell 0
        have dd1 := zf.cell 1
        simp at dd0 dd1
        refine bodyPost_ret (v := .tuple #[.agg #[.slice b m cc, .int .i64 nx], .int .i64 0]) (by simp [results, Try.f114, go_sem, dd0, dd1]) rfl ?_
        exact HPP.out
      · rw [if_pos hq0] at hmd
        have hcC := href.out W5 q hB5 zr5 hmd
        have hcb : (q != 0) = true := by simpa using hq0
        have hcb' : (q == 0) = false := by simpa using hq0
        clear hmd zr5 zt5 hB5 zX5 zY gX5 gY5
        go_wp2_with fail
        (with_reducible refine hcC.mono ?_)
        rintro e wz ⟨b, m, cc, rfl, zz, hPz⟩
        have HPP : Hid _ := hPz
        have HZZ : Hid _ := zz
        have rr0 := zz.cell 0
        have rr1 := zz.cell 1
        have rf0 := zz.frozen 0
        have rf1 := zz.frozen 1
        simp at rr0 rr1
        clear zz hPz hcC t0 t1 x0 x1 x2 x3 x4 x5
        go_wp2
        have zf := blk2 HZZ.out (.slice b m cc) (.int .i64 nx)
        have dd0 := zf.cell 0
        have dd1 := zf.cell 1
        simp at dd0 dd1
        refine bodyPost_ret (v := .tuple #[.agg #[.slice b m cc, .int .i64 nx], .int .i64 q]) (by simp [results, Try.f114, go_sem, dd0, dd1]) rfl ?_
        exact HPP.out

    · rw [if_pos hc0] at hmd
      have hcC := href.out W4 c hb4 zr4 hmd
      have hcb : (c != 0) = true := by simpa using hc0
      have hcb' : (c == 0) = false := by simpa using hc0
      clear hmd zr4 zt4 hb4 zX g5
      go_wp2_with fail
      (with_reducible refine hcC.mono ?_)
      rintro e wz ⟨b, m, cc, rfl, zz, hPz⟩
      have HPP : Hid _ := hPz
      have HZZ : Hid _ := zz
      have rr0 := zz.cell 0
      have rr1 := zz.cell 1
      have rf0 := zz.frozen 0
      have rf1 := zz.frozen 1
      simp at rr0 rr1
      clear zz hPz hcC t0 t1
      go_wp2
      have zf := blk2 HZZ.out (.slice b m cc) (.int .i64 nx)
      have dd0 := zf.cell 0
      have dd1 := zf.cell 1
      simp at dd0 dd1
      refine bodyPost_ret (v := .tuple #[.agg #[.slice b m cc, .int .i64 nx], .int .i64 c]) (by simp [results, Try.f114, go_sem, dd0, dd1]) rfl ?_
      exact HPP.out
end

section
open Go.RowKit
def renameD (nx : Int) (ds : List InoD) (s tp : ByteArray) : List InoD × Int :=
  if treeD nx ds = false ∨ (parentOf s.data.toList).2.2 = false ∨ (parentOf tp.data.toList).2.2 = false then (ds, 1)
  else if (walkP ds s).2 ≠ 0 then (ds, (walkP ds s).2)
  else if belowOf s.data.toList tp.data.toList = true then (ds, 6)
  else if (spotD ds tp (walkP ds (strB (parentOf s.data.toList).1)).1).2.2 ≠ 0 then (ds, (spotD ds tp (walkP ds (strB (parentOf s.data.toList).1)).1).2.2)
  else (setD (dropP ds s) { (statD (dropP ds s) (strB (parentOf tp.data.toList).1)).1 with ents := insBy (fun q => gtS (spotD ds tp (walkP ds (strB (parentOf s.data.toList).1)).1).2.1 q.1) (statD (dropP ds s) (strB (parentOf tp.data.toList).1)).1.ents ((spotD ds tp (walkP ds (strB (parentOf s.data.toList).1)).1).2.1, (walkP ds s).1) }, 0)
theorem setD_mem {ds : List InoD} {D E : InoD} (h : E ∈ setD ds D) : E ∈ ds ∨ E = D := by
  unfold setD at h
  obtain ⟨r, hr, rfl⟩ := List.mem_map.1 h
  rcases setR_mem hr with h' | rfl
  · obtain ⟨F, hF, rfl⟩ := List.mem_map.1 h'
    exact .inl hF
  · exact .inr rfl
theorem statD_few {ds : List InoD} (h : ∀ D ∈ ds, D.ents.length ≤ 10) (s : ByteArray) : (statD ds s).1.ents.length ≤ 10 := by
  unfold statD
  split
  · split
    · simp [inoZ]
    · rename_i D hD
      exact h D (look_mem hD).1
  · simp [inoZ]
theorem dropP_few {ds : List InoD} (h : ∀ D ∈ ds, D.ents.length ≤ 10) (s : ByteArray) : ∀ D ∈ dropP ds s, D.ents.length ≤ 10 := fun D hD => by
  rcases setD_mem hD with hD | rfl
  · exact h D hD
  · exact Nat.le_trans (List.length_filter_le _ _) (statD_few h _)
set_option maxRecDepth 100000 in
set_option maxHeartbeats 8000000 in
theorem renameS (a : Option Addr) (n cap : Nat) (nx : Int) (rs : List InoR) (s tp : ByteArray) (w : World) (ht : TR w a n rs) (hs : s.size ≤ 4000000) (hto : tp.size ≤ 4000000) :
    Calls Try.prog 115 #[.agg #[.slice a n cap, .int .i64 nx], .string s, .string tp] w fun e w' => TabC w nx (renameD nx (rs.map InoR.D) s tp).1 (renameD nx (rs.map InoR.D) s tp).2 e w' := by
  have B0 : Below w.heap.size w ((w.alloc (.cells #[.slice a n cap, .int .i64 nx] 26)).alloc (.cells #[.slice none 0 0, .int .i64 0] 26)) := ((Below.refl _ w).alloc (Nat.le_refl _) _).alloc (by simp) _
  have zT : Blk ((w.alloc (.cells #[.slice a n cap, .int .i64 nx] 26)).alloc (.cells #[.slice none 0 0, .int .i64 0] 26)) w.heap.size 26 #[.slice a n cap, .int .i64 nx] := (Blk.new w _ _).alloc _
  have zR := Blk.new (w.alloc (.cells #[.slice a n cap, .int .i64 nx] 26)) 26 #[.slice none 0 0, .int .i64 0]
  simp only [World.size_alloc] at zR
  obtain ⟨ds, hds⟩ : ∃ ds, rs.map InoR.D = ds := ⟨_, rfl⟩
  have hdn : ds.length = n := by rw [← hds, List.length_map, ht.len]
  have hp : Hid (∀ (e : Ending) (w' : World) (l : List InoD) (q : Int), renameD nx ds s tp = (l, q) → TabC w nx l q e w' → TabC w nx (renameD nx ds s tp).1 (renameD nx ds s tp).2 e w') := fun e w' l q h hh => by rw [h]; exact hh
  rw [hds]
  generalize TabC w nx (renameD nx ds s tp).1 (renameD nx ds s tp).2 = P at hp ⊢
  have hmd : renameD nx ds s tp = renameD nx ds s tp := rfl
  conv at hmd => rhs; unfold renameD
  have HDS : Hid _ := hds
  have HDN : Hid _ := hdn
  have HT : Hid _ := ht
  have HSm : Hid (∀ F ∈ ds, InoSmall F) := by
    intro F hF
    exact ht.smallD F (by rw [hds]; exact hF)
  have hn1 := ht.n
  have href : Hid (∀ (W : World) (q : Int), Below w.heap.size w W → Blk W (w.heap.size + 1) 26 #[.slice none 0 0, .int .i64 0] → renameD nx ds s tp = (ds, q) → Calls Try.prog 41 #[.agg #[.slice a n cap, .int .i64 nx]] W fun e V => ∃ (b : Option Addr) (m cc : Nat), e = .returned (.agg #[.slice b m cc, .int .i64 nx]) ∧ Blk V (w.heap.size + 1) 26 #[.slice none 0 0, .int .i64 0] ∧ P (.returned (.tuple #[.agg #[.slice b m cc, .int .i64 nx], .int .i64 q])) ((V.setCell ⟨w.heap.size + 1, 0, none⟩ (.slice b m cc)).setCell ⟨w.heap.size + 1, 1, none⟩ (.int .i64 nx))) := fun W q hb hz hq => by
    have hT := HT.out.keep hb
    refine (l4CopyS a n cap nx rs W hT.len hT.n hT.small hT.rd).mono fun e V h => ?_
    obtain ⟨b, m, cc, h1, h2, h3⟩ := copyC h hb (Nat.le_succ _) hz
    rw [HDS.out] at h3
    exact ⟨b, m, cc, h1, h2, hp.out _ _ _ _ hq (h3 q)⟩
  have hset : Hid (∀ (W V : World) (v : Value) (l : List InoD), TabAt W nx l v V → Below w.heap.size w W → Blk W (w.heap.size + 1) 26 #[.slice none 0 0, .int .i64 0] → renameD nx ds s tp = (l, 0) → ∃ (b : Option Addr) (m cc : Nat), v = .agg #[.slice b m cc, .int .i64 nx] ∧ Blk V (w.heap.size + 1) 26 #[.slice none 0 0, .int .i64 0] ∧ P (.returned (.tuple #[.agg #[.slice b m cc, .int .i64 nx], .int .i64 0])) ((V.setCell ⟨w.heap.size + 1, 0, none⟩ (.slice b m cc)).setCell ⟨w.heap.size + 1, 1, none⟩ (.int .i64 nx))) := fun W V v l h hb hz hq => by
    obtain ⟨b, cc, js, rfl, hQ, hbV⟩ := h
    refine ⟨b, js.length, cc, rfl, hz.keep hbV, hp.out _ _ _ _ hq ?_⟩
    have := hQ.boxed (hb.trans (hbV.mono hb.size)) (R := w.heap.size + 1) (by omega) hz.lt (.slice b js.length cc) (.int .i64 nx)
    exact ⟨b, cc, js, rfl, this.1, this.2⟩
  go_enter Try.func115, Try.ntmps115
  go_wp2_with fail
  obtain ⟨W0, hW0⟩ : ∃ W, (w.alloc (.cells #[.slice a n cap, .int .i64 nx] 26)).alloc (.cells #[.slice none 0 0, .int .i64 0] 26) = W := ⟨_, rfl⟩
  rw [hW0] at B0 zT zR ⊢
  clear hW0 ht hds hdn
  have hps := parent_small s.data.toList
  have hpt := parent_small tp.data.toList
  have hpp := parentS s W0 hs
  refine hpp.mono ?_
  rintro e w1 ⟨bb1, rfl⟩
  clear hpp
  obtain ⟨Q1, Q2, Q3, hQ⟩ : ∃ P1 P2 P3, parentOf s.data.toList = (P1, P2, P3) := ⟨_, _, _, rfl⟩
  rw [hQ] at hmd hps ⊢
  dsimp only at hmd hps ⊢
  have hB0 := B0
  have zr0 := zR
  have zt0 := zT
  clear B0 zR zT hQ
  have hB1 := hB0.trans (bb1.mono hB0.size)
  have zr1 := zr0.keep bb1
  have zt1 := zt0.keep bb1
  clear hB0 zr0 zt0 bb1

  have hpp := parentS tp w1 hto
  go_wp2_with fail
  refine hpp.mono ?_
  rintro e w2 ⟨bb2, rfl⟩
  clear hpp
  obtain ⟨P1, P2, P3, hP⟩ : ∃ P1 P2 P3, parentOf tp.data.toList = (P1, P2, P3) := ⟨_, _, _, rfl⟩
  rw [hP] at hmd hpt ⊢
  dsimp only at hmd hpt ⊢
  have HP : Hid _ := hP
  have hB2 := hB1.trans (bb2.mono hB1.size)
  have zr2 := zr1.keep bb2
  have zt2 := zt1.keep bb2
  clear hB1 zr1 zt1 bb2

  have t0 := zt2.cell 0
  have t1 := zt2.cell 1
  simp at t0 t1
  have hcT := treeS a n cap nx rs w2 (HT.out.keep hB2)
  rw [HDS.out] at hcT
  clear hP
  go_wp2_with fail
  (with_reducible refine hcT.mono ?_)
  rintro e w3 ⟨rfl, bb3⟩
  clear hcT t0 t1
  have hB3 := hB2.trans (bb3.mono hB2.size)
  have zr3 := zr2.keep bb3
  have zt3 := zt2.keep bb3
  clear hB2 zr2 zt2 bb3

  have t0 := zt3.cell 0
  have t1 := zt3.cell 1
  simp at t0 t1
  have hrl : w.heap.size + 1 < w3.heap.size := zr3.lt
  by_cases hbad : treeD nx ds = false ∨ Q3 = false ∨ P3 = false
  · rw [if_pos hbad] at hmd
    have hcC := href.out w3 1 hB3 zr3 hmd
    clear hmd zr3 zt3
    cases htr : treeD nx ds with
    | false =>
      go_wp2_with fail
      (with_reducible refine hcC.mono ?_)
      rintro e wz ⟨b, m, cc, rfl, zz, hPz⟩
      have HPP : Hid _ := hPz
      have HZZ : Hid _ := zz
      have rr0 := zz.cell 0
      have rr1 := zz.cell 1
      have rf0 := zz.frozen 0
      have rf1 := zz.frozen 1
      simp at rr0 rr1
      clear zz hPz hcC t0 t1
      go_wp2
      have zf := blk2 HZZ.out (.slice b m cc) (.int .i64 nx)
      have dd0 := zf.cell 0
      have dd1 := zf.cell 1
      simp at dd0 dd1
      refine bodyPost_ret (v := .tuple #[.agg #[.slice b m cc, .int .i64 nx], .int .i64 1]) (by simp [results, Try.f115, go_sem, dd0, dd1]) rfl ?_
      exact HPP.out

    | true =>
      rw [htr] at hbad
      cases Q3 with
      | false =>
        go_wp2_with fail
        (with_reducible refine hcC.mono ?_)
        rintro e wz ⟨b, m, cc, rfl, zz, hPz⟩
        have HPP : Hid _ := hPz
        have HZZ : Hid _ := zz
        have rr0 := zz.cell 0
        have rr1 := zz.cell 1
        have rf0 := zz.frozen 0
        have rf1 := zz.frozen 1
        simp at rr0 rr1
        clear zz hPz hcC t0 t1
        go_wp2
        have zf := blk2 HZZ.out (.slice b m cc) (.int .i64 nx)
        have dd0 := zf.cell 0
        have dd1 := zf.cell 1
        simp at dd0 dd1
        refine bodyPost_ret (v := .tuple #[.agg #[.slice b m cc, .int .i64 nx], .int .i64 1]) (by simp [results, Try.f115, go_sem, dd0, dd1]) rfl ?_
        exact HPP.out

      | true =>
        obtain rfl : P3 = false := by simpa using hbad
        go_wp2_with fail
        (with_reducible refine hcC.mono ?_)
        rintro e wz ⟨b, m, cc, rfl, zz, hPz⟩
        have HPP : Hid _ := hPz
        have HZZ : Hid _ := zz
        have rr0 := zz.cell 0
        have rr1 := zz.cell 1
        have rf0 := zz.frozen 0
        have rf1 := zz.frozen 1
        simp at rr0 rr1
        clear zz hPz hcC t0 t1
        go_wp2
        have zf := blk2 HZZ.out (.slice b m cc) (.int .i64 nx)
        have dd0 := zf.cell 0
        have dd1 := zf.cell 1
        simp at dd0 dd1
        refine bodyPost_ret (v := .tuple #[.agg #[.slice b m cc, .int .i64 nx], .int .i64 1]) (by simp [results, Try.f115, go_sem, dd0, dd1]) rfl ?_
        exact HPP.out

  · rw [if_neg hbad] at hmd
    obtain ⟨htr, rfl, rfl⟩ : treeD nx ds = true ∧ Q3 = true ∧ P3 = true := by simpa using hbad
    have hok := tabD_ok (treeD_parts htr).1
    have HOK : Hid _ := hok
    have HFW : Hid (∀ D ∈ ds, D.ents.length ≤ 10) := fun D hD => (entsOk_at (ok_parts (hok.2.2.2.2.1 D hD).1).2.2.1).1
    rw [htr]
    have hcW := walkS a n cap nx rs s w3 (HT.out.keep hB3) hs
    rw [HDS.out] at hcW
    obtain ⟨iw, c, hWc⟩ : ∃ i c, walkP ds s = (i, c) := ⟨_, _, rfl⟩
    rw [hWc] at hmd hcW
    dsimp only at hmd hcW
    clear htr hbad hok hWc
    go_wp2_with fail
    (with_reducible refine hcW.mono ?_)
    rintro e w4 ⟨rfl, bb4⟩
    clear hcW t0 t1
    have hB4 := hB3.trans (bb4.mono hB3.size)
    have zr4 := zr3.keep bb4
    have zt4 := zt3.keep bb4
    have hs34 := bb4.size
    clear hB3 zr3 zt3 bb4
    have t0 := zt4.cell 0
    have t1 := zt4.cell 1
    simp at t0 t1
    by_cases hc0 : c = 0
    · subst hc0
      rw [if_neg (by simp)] at hmd
      have hcB := belowS s tp w4 hs hto
      unfold BePost at hcB
      go_wp2_with fail
      (with_reducible refine hcB.mono ?_)
      rintro e w5 ⟨rfl, bb5⟩
      clear hcB t0 t1
      have hB5 := hB4.trans (bb5.mono hB4.size)
      have zr5 := zr4.keep bb5
      have zt5 := zt4.keep bb5
      have hs45 := bb5.size
      clear hB4 zr4 zt4 bb5
      have t0 := zt5.cell 0
      have t1 := zt5.cell 1
      simp at t0 t1
      cases hbl : belowOf s.data.toList tp.data.toList with
      | true =>
        rw [if_pos hbl] at hmd
        have hcC := href.out w5 6 hB5 zr5 hmd
        clear hmd zr5 zt5 hbl
        go_wp2_with fail
        (with_reducible refine hcC.mono ?_)
        rintro e wz ⟨b, m, cc, rfl, zz, hPz⟩
        have HPP : Hid _ := hPz
        have HZZ : Hid _ := zz
        have rr0 := zz.cell 0
        have rr1 := zz.cell 1
        have rf0 := zz.frozen 0
        have rf1 := zz.frozen 1
        simp at rr0 rr1
        clear zz hPz hcC t0 t1
        go_wp2
        have zf := blk2 HZZ.out (.slice b m cc) (.int .i64 nx)
        have dd0 := zf.cell 0
        have dd1 := zf.cell 1
        simp at dd0 dd1
        refine bodyPost_ret (v := .tuple #[.agg #[.slice b m cc, .int .i64 nx], .int .i64 6]) (by simp [results, Try.f115, go_sem, dd0, dd1]) rfl ?_
        exact HPP.out

      | false =>
        rw [if_neg (by simp [hbl])] at hmd
        clear hbl
        have hcW := walkS a n cap nx rs (strB Q1) w5 (HT.out.keep hB5) (by rw [strB_size]; omega)
        rw [HDS.out] at hcW
        obtain ⟨fw, cw, hFw⟩ : ∃ i c, walkP ds (strB Q1) = (i, c) := ⟨_, _, rfl⟩
        rw [hFw] at hmd hcW
        dsimp only at hmd hcW
        clear hFw
        go_wp2_with fail
        (with_reducible refine hcW.mono ?_)
        rintro e w6 ⟨rfl, bb6⟩
        clear hcW t0 t1
        have hB6 := hB5.trans (bb6.mono hB5.size)
        have zr6 := zr5.keep bb6
        have zt6 := zt5.keep bb6
        have hs56 := bb6.size
        clear hB5 zr5 zt5 bb6
        have t0 := zt6.cell 0
        have t1 := zt6.cell 1
        simp at t0 t1
        have hcY := spotS a n cap nx rs tp fw w6 (HT.out.keep hB6) hto
        rw [HDS.out] at hcY
        obtain ⟨D, nm, q, hYq⟩ : ∃ Y nm q, spotD ds tp fw = (Y, nm, q) := ⟨_, _, _, rfl⟩
        rw [hYq] at hcY hmd
        dsimp only at hcY hmd
        have HYQ : Hid _ := hYq
        clear hYq
        go_wp2_with fail
        (with_reducible refine hcY.mono ?_)
        rintro e w7 ⟨b1, d1, b2, d2, b3, d3, rfl, _, bb7⟩
        clear hcY t0 t1
        have hs67 := bb7.size
        have zr7 := (zr6.keep bb7).alloc (.cells #[.int .i64 D.ino, .int .i64 D.kind, .int .i64 D.links, .slice b1 D.data.length d1, .slice b2 D.ents.length d2, .slice b3 D.attrs.length d3] 30)
        have zt7 := (zt6.keep bb7).alloc (.cells #[.int .i64 D.ino, .int .i64 D.kind, .int .i64 D.links, .slice b1 D.data.length d1, .slice b2 D.ents.length d2, .slice b3 D.attrs.length d3] 30)
        have hb7' := hB6.trans (bb7.mono hB6.size)
        have hB7 := hb7'.alloc hb7'.size (.cells #[.int .i64 D.ino, .int .i64 D.kind, .int .i64 D.links, .slice b1 D.data.length d1, .slice b2 D.ents.length d2, .slice b3 D.attrs.length d3] 30)
        obtain ⟨W7, hW7⟩ : ∃ W, w7.alloc (.cells #[.int .i64 D.ino, .int .i64 D.kind, .int .i64 D.links, .slice b1 D.data.length d1, .slice b2 D.ents.length d2, .slice b3 D.attrs.length d3] 30) = W := ⟨_, rfl⟩
        rw [hW7] at zr7 zt7 hB7
        have t0 := zt7.cell 0
        have t1 := zt7.cell 1
        simp at t0 t1
        clear hb7' bb7 hB6 zr6 zt6
        by_cases hq0 : q = 0
        · subst hq0
          rw [if_neg (by simp)] at hmd
          have hnm := (spot_mem HYQ.out).2
          have hcD := dropPS a n cap nx rs s W7 (HT.out.keep hB7) hs
          rw [HDS.out] at hcD
          go_wp2_with fail
          (with_reducible refine hcD.mono ?_)
          rintro e v1 ⟨v, rfl, tA⟩
          clear hcD t0 t1
          obtain ⟨ob, om, oc, rs4, rfl, hT4, hD4, b4⟩ := tA.trs (dropP_small HSm.out s) (by have := dropP_len ds s; have := HOK.out.2.1; omega)
          have bO : Below v1.heap.size v1 (v1.alloc (.cells #[.slice ob om oc, .int .i64 nx] 26)) := (Below.refl _ v1).alloc (Nat.le_refl _) _
          have zO := Blk.new v1 26 #[.slice ob om oc, .int .i64 nx]
          have hsO : (v1.alloc (.cells #[.slice ob om oc, .int .i64 nx] 26)).heap.size = v1.heap.size + 1 := by simp
          obtain ⟨V2, hV2⟩ : ∃ W, v1.alloc (.cells #[.slice ob om oc, .int .i64 nx] 26) = W := ⟨_, rfl⟩
          rw [hV2] at bO zO hsO
          have b5 := b4.trans (bO.mono b4.size)
          have zr8 := zr7.keep b5
          have hB8 := hB7.trans (b5.mono hB7.size)
          have HSO : Hid _ := hsO
          have HZO : Hid _ := zO
          have HR8 : Hid _ := zr8
          have HB8 : Hid _ := hB8
          have HBO : Hid _ := bO
          have hs78 := b5.size
          clear zO zr8 hB8 bO b4 b5 zr7 zt7 hB7 tA hsO
          have hpp := parentS tp V2 hto
          go_wp2_with fail
          refine hpp.mono ?_
          rintro e v3 ⟨bb8, rfl⟩
          clear hpp
          rw [HP.out]
          dsimp only
          have zO3 := Blk.keep HZO.out bb8
          have o0 := zO3.cell 0
          have o1 := zO3.cell 1
          simp at o0 o1
          have hb13 := HBO.out.trans (bb8.mono HBO.out.size)
          have hcS := statS ob om oc nx rs4 (strB P1) v3 (hT4 v3 hb13).1 (by rw [strB_size]; omega)
          rw [hD4] at hcS
          have hYs : InoSmall (statD (dropP ds s) (strB P1)).1 := statD_small (dropP_small HSm.out s)
          have hY10 : (statD (dropP ds s) (strB P1)).1.ents.length ≤ 10 := statD_few (dropP_few HFW.out s) _
          obtain ⟨Y, cy, hYc⟩ : ∃ Y c, statD (dropP ds s) (strB P1) = (Y, c) := ⟨_, _, rfl⟩
          rw [hYc] at hcS hYs hY10 hmd
          dsimp only at hcS hYs hY10 hmd
          clear hYc
          go_wp2_with fail
          (with_reducible refine hcS.mono ?_)
          rintro e v5 ⟨f1, h1, f2, h2, f3, h3, rfl, gY, bb9⟩
          clear hcS o0 o1
          have bN : Below v5.heap.size v5 (v5.alloc (.cells #[.int .i64 Y.ino, .int .i64 Y.kind, .int .i64 Y.links, .slice f1 Y.data.length h1, .slice f2 Y.ents.length h2, .slice f3 Y.attrs.length h3] 30)) := (Below.refl _ v5).alloc (Nat.le_refl _) _
          have zY := Blk.new v5 30 #[.int .i64 Y.ino, .int .i64 Y.kind, .int .i64 Y.links, .slice f1 Y.data.length h1, .slice f2 Y.ents.length h2, .slice f3 Y.attrs.length h3]
          have gY5 := gY.keep (Nat.le_refl _) bN
          have hltY : v5.heap.size < (v5.alloc (.cells #[.int .i64 Y.ino, .int .i64 Y.kind, .int .i64 Y.links, .slice f1 Y.data.length h1, .slice f2 Y.ents.length h2, .slice f3 Y.attrs.length h3] 30)).heap.size := by simp
          have b35 := bb9.trans (bN.mono bb9.size)
          obtain ⟨V5, hV5⟩ : ∃ W, v5.alloc (.cells #[.int .i64 Y.ino, .int .i64 Y.kind, .int .i64 Y.links, .slice f1 Y.data.length h1, .slice f2 Y.ents.length h2, .slice f3 Y.attrs.length h3] 30) = W := ⟨_, rfl⟩
          rw [hV5] at bN zY gY5 hltY b35
          have hs89 := bb9.size
          have hs38 := bb8.size
          have hsO := HSO.out
          have y4 := zY.cell 4
          simp at y4
          have hcP := l6PutS f2 Y.ents.length h2 Y.ents nm iw V5 rfl (by omega) gY5.rds.ents
          have HMD : Hid _ := hmd
          have HSO2 : Hid _ := hsO
          clear hmd hsO
          go_wp2_with fail
          (with_reducible refine hcP.mono ?_)
          rintro e v7 ⟨g7, c7, rfl, o7, b7⟩
          clear hcP y4
          have hsO := HSO2.out
          have hs5 := b7.size
          have hg7 := (World.ownsRow.lt o7 g7 rfl).1
          have gS := gr_setC v7 v5.heap.size 4 (.slice (some ⟨g7, 0, none⟩) (Y.ents.length + 1) c7)
          have y4 := (zY.keep b7).cell 4
          have yf := (zY.keep b7).frozen 4
          simp at y4
          have zY8 : Blk (v7.setCell ⟨v5.heap.size, 4, none⟩ (.slice (some ⟨g7, 0, none⟩) (Y.ents.length + 1) c7)) v5.heap.size 30 #[.int .i64 Y.ino, .int .i64 Y.kind, .int .i64 Y.links, .slice f1 Y.data.length h1, .slice (some ⟨g7, 0, none⟩) (Y.ents.length + 1) c7, .slice f3 Y.attrs.length h3] := (zY.keep b7).set 4 _
          have zO8 := (((zO3.keep b35).keep b7).kept gS (by have := Blk.lt HZO.out; omega))
          have b27 := bb8.trans ((b35.trans (b7.mono b35.size)).mono bb8.size)
          have zr9 := ((Blk.keep HR8.out b27).kept gS (by have := Blk.lt HR8.out; omega))
          have hB9 : Below w.heap.size w (v7.setCell ⟨v5.heap.size, 4, none⟩ (.slice (some ⟨g7, 0, none⟩) (Y.ents.length + 1) c7)) := ((HB8.out.trans (b27.mono HB8.out.size))).setCell (p := ⟨v5.heap.size, 4, none⟩) (by show w.heap.size ≤ v5.heap.size; have := Blk.lt HR8.out; omega) _
          have o8 := row_kept o7 gS (fun z hz e => by simp [Value.ownBlock] at hz; simp at e; omega)
          have gY8 : InoG (v7.setCell ⟨v5.heap.size, 4, none⟩ (.slice (some ⟨g7, 0, none⟩) (Y.ents.length + 1) c7)) v3.heap.size v5.heap.size Y (.slice f1 Y.data.length h1) (.slice f2 Y.ents.length h2) (.slice f3 Y.attrs.length h3) := (gY5.keep (by omega) b7).kept fun k h1 h2 => gS.block k (by omega) (by simp; omega)
          have hb19 : Below v1.heap.size v1 (v7.setCell ⟨v5.heap.size, 4, none⟩ (.slice (some ⟨g7, 0, none⟩) (Y.ents.length + 1) c7)) := (HBO.out.trans (b27.mono HBO.out.size)).setCell (p := ⟨v5.heap.size, 4, none⟩) (by show v1.heap.size ≤ v5.heap.size; omega) _
          obtain ⟨F, hF⟩ : ∃ F, ({ Y with ents := insBy (fun q => gtS nm q.1) Y.ents (nm, iw) } : InoD) = F := ⟨_, rfl⟩
          have hFr : InoRd (v7.setCell ⟨v5.heap.size, 4, none⟩ (.slice (some ⟨g7, 0, none⟩) (Y.ents.length + 1) c7)) F f1 (some ⟨g7, 0, none⟩) f3 := by
            rw [← hF]
            exact ⟨gY8.rds.data, gY8.rds.byt, (show OwnP 67 _ g7 _ c7 _ from row_lower o8 (Nat.zero_le _)).rd, gY8.rds.attrs⟩
          have hFs : InoSmall F := by
            rw [← hF]
            refine ⟨hYs.data, ?_, hYs.attrs, fun q hq => ?_, hYs.attrsz⟩
            · show (insBy _ _ _).length ≤ _
              rw [insBy_len]
              omega
            · rcases insBy_mem.1 hq with rfl | hq
              · show nm.size ≤ _
                omega
              · exact hYs.entsz q hq
          have e2 : Y.ino = F.ino ∧ Y.kind = F.kind ∧ Y.links = F.links ∧ Y.data.length = F.data.length ∧ Y.ents.length + 1 = F.ents.length ∧ Y.attrs.length = F.attrs.length := by rw [← hF]; exact ⟨rfl, rfl, rfl, rfl, (insBy_len _ _ _).symm, rfl⟩
          have HMF : Hid (renameD nx ds s tp = (setD (dropP ds s) F, 0)) := by show _ = _; rw [HMD.out, hF]
          have hcF := setT ob om oc nx rs4 F f1 (some ⟨g7, 0, none⟩) f3 h1 c7 h3 (v7.setCell ⟨v5.heap.size, 4, none⟩ (.slice (some ⟨g7, 0, none⟩) (Y.ents.length + 1) c7)) (hT4 _ hb19).1 hFs hFr
          rw [hD4, ← e2.1, ← e2.2.1, ← e2.2.2.1, ← e2.2.2.2.1, ← e2.2.2.2.2.1, ← e2.2.2.2.2.2] at hcF
          obtain ⟨j0, j1, j2, j3, j4, j5⟩ := zY8.six
          have p0 := zO8.cell 0
          have p1 := zO8.cell 1
          simp at p0 p1
          obtain ⟨V8, hV8⟩ : ∃ W, v7.setCell ⟨v5.heap.size, 4, none⟩ (.slice (some ⟨g7, 0, none⟩) (Y.ents.length + 1) c7) = W := ⟨_, rfl⟩
          rw [hV8] at hcF hB9 zr9 j0 j1 j2 j3 j4 j5 p0 p1
          have HBW : Hid _ := hB9
          have HZW : Hid _ := zr9
          clear hT4 hD4 zY zO3 gY gY5 bN b35 bb8 bb9 b7 b27 o7 o8 gS zY8 zO8 zr9 hB9 gY8 hb19 hb13 hF hFr hFs e2 HMD hsO
          go_wp2_with fail
          (with_reducible refine hcF.mono ?_)
          rintro e wz ⟨v, rfl, tAz⟩
          obtain ⟨b, m, cc, rfl, zz, hPz⟩ := hset.out _ _ _ _ tAz HBW.out HZW.out HMF.out
          have HPP : Hid _ := hPz
          have HZZ : Hid _ := zz
          have rr0 := zz.cell 0
          have rr1 := zz.cell 1
          have rf0 := zz.frozen 0
          have rf1 := zz.frozen 1
          simp at rr0 rr1
          clear zz hPz hcF tAz y4 yf j0 j1 j2 j3 j4 j5 p0 p1
          go_wp2
          have zf := blk2 HZZ.out (.slice b m cc) (.int .i64 nx)
          have dd0 := zf.cell 0
          have dd1 := zf.cell 1
          simp at dd0 dd1
          refine bodyPost_ret (v := .tuple #[.agg #[.slice b m cc, .int .i64 nx], .int .i64 0]) (by simp [results, Try.f115, go_sem, dd0, dd1]) rfl ?_
          exact HPP.out

        · rw [if_pos hq0] at hmd
          have hcC := href.out W7 q hB7 zr7 hmd
          have hcb : (q != 0) = true := by simpa using hq0
          have hcb' : (q == 0) = false := by simpa using hq0
          clear hmd zr7 zt7 hB7
          go_wp2_with fail
          (with_reducible refine hcC.mono ?_)
          rintro e wz ⟨b, m, cc, rfl, zz, hPz⟩
          have HPP : Hid _ := hPz
          have HZZ : Hid _ := zz
          have rr0 := zz.cell 0
          have rr1 := zz.cell 1
          have rf0 := zz.frozen 0
          have rf1 := zz.frozen 1
          simp at rr0 rr1
          clear zz hPz hcC t0 t1
          go_wp2
          have zf := blk2 HZZ.out (.slice b m cc) (.int .i64 nx)
          have dd0 := zf.cell 0
          have dd1 := zf.cell 1
          simp at dd0 dd1
          refine bodyPost_ret (v := .tuple #[.agg #[.slice b m cc, .int .i64 nx], .int .i64 q]) (by simp [results, Try.f115, go_sem, dd0, dd1]) rfl ?_
          exact HPP.out

    · rw [if_pos hc0] at hmd
      have hcC := href.out w4 c hB4 zr4 hmd
      have hcb : (c != 0) = true := by simpa using hc0
      have hcb' : (c == 0) = false := by simpa using hc0
      clear hmd zr4 zt4 hB4
      go_wp2_with fail
      (with_reducible refine hcC.mono ?_)
      rintro e wz ⟨b, m, cc, rfl, zz, hPz⟩
      have HPP : Hid _ := hPz
      have HZZ : Hid _ := zz
      have rr0 := zz.cell 0
      have rr1 := zz.cell 1
      have rf0 := zz.frozen 0
      have rf1 := zz.frozen 1
      simp at rr0 rr1
      clear zz hPz hcC t0 t1
      go_wp2
      have zf := blk2 HZZ.out (.slice b m cc) (.int .i64 nx)
      have dd0 := zf.cell 0
      have dd1 := zf.cell 1
      simp at dd0 dd1
      refine bodyPost_ret (v := .tuple #[.agg #[.slice b m cc, .int .i64 nx], .int .i64 c]) (by simp [results, Try.f115, go_sem, dd0, dd1]) rfl ?_
      exact HPP.out
end
end Go.Proofs.Ytgcmpimckpnemaa
