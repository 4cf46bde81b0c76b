/-
  Joined: Make6, Cut6, Drop6.
-/
import Derived.Test.YtgcmpimckpnemaaTreeST
import Derived.Test.YtgcmpimckpnemaaA13T
namespace Go.Proofs.Ytgcmpimckpnemaa
section
open Go.RowKit
theorem statD_mem {ds : List InoD} {s : ByteArray} {D : InoD} (h : statD ds s = (D, 0)) : D ∈ ds := by
  unfold statD at h
  split at h
  · split at h
    · simp at h
    · rename_i E hE
      simp at h
      exact h ▸ (look_mem hE).1
  · rename_i hn
    simp at h
    exact absurd h.2 hn
theorem spot_mem {ds : List InoD} {s : ByteArray} {fr : Int} {D : InoD} {nm : ByteArray} (h : spotD ds s fr = (D, nm, 0)) : D ∈ ds ∧ nm.size ≤ 14 := by
  unfold spotD at h
  split at h
  · simp at h
  · split at h
    · rename_i hn
      simp at h
      exact absurd h.2.2 hn
    · rename_i hn
      split at h
      · simp at h
      · split at h
        · simp at h
        · split at h
          · simp at h
          · simp only [Prod.mk.injEq, and_true] at h
            have h0 : (statD ds (strB (parentOf s.data.toList).1)).2 = 0 := by simpa using hn
            refine ⟨statD_mem (s := strB (parentOf s.data.toList).1) (Prod.ext h.1 h0), ?_⟩
            rw [← h.2, strB_size]
            exact (parent_small _).2
/-- SetInode, with what is told of tables here. -/
theorem setT (a : Option Addr) (n cap : Nat) (nx : Int) (rs : List InoR) (D : InoD) (a1 a2 a3 : Option Addr) (c1 c2 c3 : Nat) (w : World) (ht : TR w a n rs) (hsx : InoSmall D) (hx : InoRd w D a1 a2 a3) :
    Calls Try.prog 14 #[.agg #[.slice a n cap, .int .i64 nx], .agg #[.int .i64 D.ino, .int .i64 D.kind, .int .i64 D.links, .slice a1 D.data.length c1, .slice a2 D.ents.length c2, .slice a3 D.attrs.length c3]] w fun e w' => ∃ v, e = .returned v ∧ TabAt w nx (setD (rs.map InoR.D) D) v w' :=
  (setS a n cap nx rs D a1 a2 a3 c1 c2 c3 w ht.len ht.n ht.small hsx ht.rd hx).mono fun e w' h => by
    have := SetPost.tab h
    rw [setD_eq] at this
    exact this
theorem setD_len (ds : List InoD) (D : InoD) : (setD ds D).length ≤ ds.length + 1 := by
  unfold setD
  rw [List.length_map]
  unfold setR
  split
  · simp
  · rw [putAt_len _ _ _ (placeOf_le _ _)]
    simp
theorem setD_small {ds : List InoD} {D : InoD} (h : ∀ E ∈ ds, InoSmall E) (hD : InoSmall D) : ∀ E ∈ setD ds D, InoSmall E := fun E hE => by
  unfold setD at hE
  obtain ⟨r, hr, rfl⟩ := List.mem_map.1 hE
  rcases setR_mem hr with h' | rfl
  · obtain ⟨F, hF, rfl⟩ := List.mem_map.1 h'
    exact h F hF
  · exact hD
/-- A new inode in a table. -/
def makeD (nx : Int) (ds : List InoD) (s : ByteArray) (kd : Int) : Int × List InoD × Int :=
  if treeD nx ds = false then (nx, ds, 1)
  else if (spotD ds s 0).2.2 = 0 ∧ (30 ≤ ds.length ∨ 1000 ≤ nx) then (nx, ds, 5)
  else if (spotD ds s 0).2.2 ≠ 0 then (nx, ds, (spotD ds s 0).2.2)
  else (nx + 1, setD (setD ds { (spotD ds s 0).1 with ents := insBy (fun q => gtS (spotD ds s 0).2.1 q.1) (spotD ds s 0).1.ents ((spotD ds s 0).2.1, nx) }) ⟨nx, kd, 1, [], [], []⟩, 0)
theorem TR.smallD {w : World} {a : Option Addr} {n : Nat} {rs : List InoR} (h : TR w a n rs) : ∀ D ∈ rs.map InoR.D, InoSmall D := fun D hD => by
  obtain ⟨r, hr, rfl⟩ := List.mem_map.1 hD
  exact h.small r hr
set_option maxRecDepth 100000 in
set_option maxHeartbeats 8000000 in
theorem makeS (a : Option Addr) (n cap : Nat) (nx : Int) (rs : List InoR) (s : ByteArray) (kd : Int) (w : World) (ht : TR w a n rs) (hs : s.size ≤ 4000000) :
    Calls Try.prog 145 #[.agg #[.slice a n cap, .int .i64 nx], .string s, .int .i64 kd] w fun e w' => TabC w (makeD nx (rs.map InoR.D) s kd).1 (makeD nx (rs.map InoR.D) s kd).2.1 (makeD nx (rs.map InoR.D) s kd).2.2 e w' := by
  have B0 : Below w.heap.size w ((w.alloc (.cells #[.slice a n cap, .int .i64 nx] 26)).alloc (.cells #[.slice none 0 0, .int .i64 0] 26)) := ((Below.refl _ w).alloc (Nat.le_refl _) _).alloc (by simp) _
  have zT : Blk ((w.alloc (.cells #[.slice a n cap, .int .i64 nx] 26)).alloc (.cells #[.slice none 0 0, .int .i64 0] 26)) w.heap.size 26 #[.slice a n cap, .int .i64 nx] := (Blk.new w _ _).alloc _
  have zR := Blk.new (w.alloc (.cells #[.slice a n cap, .int .i64 nx] 26)) 26 #[.slice none 0 0, .int .i64 0]
  simp only [World.size_alloc] at zR
  obtain ⟨ds, hds⟩ : ∃ ds, rs.map InoR.D = ds := ⟨_, rfl⟩
  have hdn : ds.length = n := by rw [← hds, List.length_map, ht.len]
  have hp : Hid (∀ (e : Ending) (w' : World) (x : Int) (l : List InoD) (q : Int), makeD nx ds s kd = (x, l, q) → TabC w x l q e w' → TabC w (makeD nx ds s kd).1 (makeD nx ds s kd).2.1 (makeD nx ds s kd).2.2 e w') := fun e w' x l q h hh => by rw [h]; exact hh
  rw [hds]
  generalize TabC w (makeD nx ds s kd).1 (makeD nx ds s kd).2.1 (makeD nx ds s kd).2.2 = P at hp ⊢
  have hmd : makeD nx ds s kd = makeD nx ds s kd := rfl
  conv at hmd => rhs; unfold makeD
  have HDS : Hid _ := hds
  have HDN : Hid _ := hdn
  have HT : Hid _ := ht
  have hn1 := ht.n
  go_enter Try.func145, Try.ntmps145
  go_wp2_with fail
  obtain ⟨W0, hW0⟩ : ∃ W, (w.alloc (.cells #[.slice a n cap, .int .i64 nx] 26)).alloc (.cells #[.slice none 0 0, .int .i64 0] 26) = W := ⟨_, rfl⟩
  rw [hW0] at B0 zT zR ⊢
  clear hW0
  have hcT := treeS a n cap nx rs W0 (ht.keep B0)
  rw [hds] at hcT
  clear ht hds hdn
  (with_reducible refine hcT.mono ?_)
  rintro e w1 ⟨rfl, b1⟩
  clear hcT
  have hB1 := B0.trans (b1.mono B0.size)
  have zt1 := zT.keep b1
  have zr1 := zR.keep b1
  clear B0 zT zR b1
  -- a table that is refused
  have href : Hid (∀ (W : World) (q : Int), Below w.heap.size w W → Blk W (w.heap.size + 1) 26 #[.slice none 0 0, .int .i64 0] → makeD nx ds s kd = (nx, ds, q) → Calls Try.prog 41 #[.agg #[.slice a n cap, .int .i64 nx]] W fun e V => ∃ (b : Option Addr) (m cc : Nat), e = .returned (.agg #[.slice b m cc, .int .i64 nx]) ∧ Blk V (w.heap.size + 1) 26 #[.slice none 0 0, .int .i64 0] ∧ P (.returned (.tuple #[.agg #[.slice b m cc, .int .i64 nx], .int .i64 q])) ((V.setCell ⟨w.heap.size + 1, 0, none⟩ (.slice b m cc)).setCell ⟨w.heap.size + 1, 1, none⟩ (.int .i64 nx))) := fun W q hb hz hq => by
    have hT := HT.out.keep hb
    refine (l4CopyS a n cap nx rs W hT.len hT.n hT.small hT.rd).mono fun e V h => ?_
    obtain ⟨b, m, cc, h1, h2, h3⟩ := copyC h hb (Nat.le_succ _) hz
    rw [HDS.out] at h3
    exact ⟨b, m, cc, h1, h2, hp.out _ _ _ _ _ hq (h3 q)⟩
  cases htr : treeD nx ds with
  | false =>
    rw [htr, if_pos rfl] at hmd
    have hcC := href.out w1 1 hB1 zr1 hmd
    have t0 := zt1.cell 0
    have t1 := zt1.cell 1
    simp at t0 t1
    clear hmd htr zr1 zt1
    go_wp2_with fail
    (with_reducible refine hcC.mono ?_)
    rintro e w2 ⟨b, m, cc, rfl, z2, hP⟩
    clear hcC t0 t1
    have HPP : Hid _ := hP
    have HZ2 : Hid _ := z2
    have r0 := z2.cell 0
    have r1 := z2.cell 1
    have f0 := z2.frozen 0
    have f1 := z2.frozen 1
    simp at r0 r1
    clear z2 hP
    go_wp2
    have zf := blk2 HZ2.out (.slice b m cc) (.int .i64 nx)
    have dd0 := zf.cell 0
    have dd1 := zf.cell 1
    simp at dd0 dd1
    refine bodyPost_ret (v := .tuple #[.agg #[.slice b m cc, .int .i64 nx], .int .i64 1]) (by simp [results, Try.f145, go_sem, dd0, dd1]) rfl ?_
    exact HPP.out
  | true =>
    rw [htr] at hmd
    simp only [Bool.true_eq_false, if_false] at hmd
    have htd := treeD_parts htr
    have hok := tabD_ok htd.1
    have t0 := zt1.cell 0
    have t1 := zt1.cell 1
    simp at t0 t1
    have hT1 := HT.out.keep hB1
    have hcS := spotS a n cap nx rs s 0 w1 hT1 hs
    rw [HDS.out] at hcS
    obtain ⟨D, nm, c, hsp⟩ : ∃ D nm c, spotD ds s 0 = (D, nm, c) := ⟨_, _, _, rfl⟩
    rw [hsp] at hcS hmd
    dsimp only at hcS hmd
    rw [HDN.out] at hmd
    have hnx := hok.2.2
    have HOK : Hid _ := hok
    have HSP : Hid _ := hsp
    have HB1 : Hid _ := hB1
    have HZR : Hid _ := zr1
    have HZT : Hid _ := zt1
    clear htr htd hsp hT1 hB1 zr1 zt1 hok
    go_wp2_with fail
    (with_reducible refine hcS.mono ?_)
    rintro e w2 ⟨b1, d1, b2, d2, b3, d3, rfl, g2, bb2⟩
    clear hcS t0 t1
    have hs12 := bb2.size
    have z3 := (Blk.keep HZR.out bb2).alloc (.cells #[.int .i64 D.ino, .int .i64 D.kind, .int .i64 D.links, .slice b1 D.data.length d1, .slice b2 D.ents.length d2, .slice b3 D.attrs.length d3] 30)
    have zt3 := (Blk.keep HZT.out bb2).alloc (.cells #[.int .i64 D.ino, .int .i64 D.kind, .int .i64 D.links, .slice b1 D.data.length d1, .slice b2 D.ents.length d2, .slice b3 D.attrs.length d3] 30)
    have hb2 := HB1.out.trans (bb2.mono HB1.out.size)
    have hb3 := hb2.alloc hb2.size (.cells #[.int .i64 D.ino, .int .i64 D.kind, .int .i64 D.links, .slice b1 D.data.length d1, .slice b2 D.ents.length d2, .slice b3 D.attrs.length d3] 30)
    have zX := Blk.new w2 30 #[.int .i64 D.ino, .int .i64 D.kind, .int .i64 D.links, .slice b1 D.data.length d1, .slice b2 D.ents.length d2, .slice b3 D.attrs.length d3]
    have g3 := g2.keep (Nat.le_refl _) ((Below.refl _ w2).alloc (Nat.le_refl _) (.cells #[.int .i64 D.ino, .int .i64 D.kind, .int .i64 D.links, .slice b1 D.data.length d1, .slice b2 D.ents.length d2, .slice b3 D.attrs.length d3] 30))
    have hlt : w2.heap.size < (w2.alloc (.cells #[.int .i64 D.ino, .int .i64 D.kind, .int .i64 D.links, .slice b1 D.data.length d1, .slice b2 D.ents.length d2, .slice b3 D.attrs.length d3] 30)).heap.size := by simp
    have hrl : w.heap.size + 1 < w1.heap.size := Blk.lt HZR.out
    obtain ⟨W3, hW3⟩ : ∃ W, w2.alloc (.cells #[.int .i64 D.ino, .int .i64 D.kind, .int .i64 D.links, .slice b1 D.data.length d1, .slice b2 D.ents.length d2, .slice b3 D.attrs.length d3] 30) = W := ⟨_, rfl⟩
    rw [hW3] at z3 zt3 hb3 zX g3 hlt
    have u0 := zt3.cell 0
    have u1 := zt3.cell 1
    simp at u0 u1
    clear hb2 g2 bb2
    have HZ3 : Hid _ := z3
    have HB3 : Hid _ := hb3
    have HG3 : Hid _ := g3
    have HZX : Hid _ := zX
    have HZT3 : Hid _ := zt3
    clear z3 hb3 g3 zX zt3
    have hrefW : Hid (∀ q : Int, makeD nx ds s kd = (nx, ds, q) → _) := fun q => href.out W3 q HB3.out HZ3.out
    by_cases hc0 : c = 0
    · subst hc0
      by_cases hfu : 30 ≤ n ∨ 1000 ≤ nx
      · rw [if_pos ⟨rfl, hfu⟩] at hmd
        have hcC := hrefW.out 5 hmd
        clear hmd
        by_cases h30 : 30 ≤ n
        · have hi30 : (30 : Int) ≤ (n : Int) := by omega
          have hd30 : decide ((30 : Int) ≤ (n : Int)) = true := decide_eq_true hi30
          go_wp2_with fail
          (with_reducible refine hcC.mono ?_)
          rintro e w4 ⟨b, m, cc, rfl, z4, hP⟩
          have HPP : Hid _ := hP
          have HZ4 : Hid _ := z4
          have r0 := z4.cell 0
          have r1 := z4.cell 1
          have f0 := z4.frozen 0
          have f1 := z4.frozen 1
          simp at r0 r1
          clear z4 hP hcC u0 u1
          go_wp2
          have zf := blk2 HZ4.out (.slice b m cc) (.int .i64 nx)
          have dd0 := zf.cell 0
          have dd1 := zf.cell 1
          simp at dd0 dd1
          refine bodyPost_ret (v := .tuple #[.agg #[.slice b m cc, .int .i64 nx], .int .i64 5]) (by simp [results, Try.f145, go_sem, dd0, dd1]) rfl ?_
          exact HPP.out
        · have hi30 : ¬ (30 : Int) ≤ (n : Int) := by omega
          have hd30 : decide ((30 : Int) ≤ (n : Int)) = false := decide_eq_false hi30
          have hi1k : (1000 : Int) ≤ nx := by omega
          have hd1k : decide ((1000 : Int) ≤ nx) = true := decide_eq_true hi1k
          go_wp2_with fail
          (with_reducible refine hcC.mono ?_)
          rintro e w4 ⟨b, m, cc, rfl, z4, hP⟩
          have HPP : Hid _ := hP
          have HZ4 : Hid _ := z4
          have r0 := z4.cell 0
          have r1 := z4.cell 1
          have f0 := z4.frozen 0
          have f1 := z4.frozen 1
          simp at r0 r1
          clear z4 hP hcC u0 u1
          go_wp2
          have zf := blk2 HZ4.out (.slice b m cc) (.int .i64 nx)
          have dd0 := zf.cell 0
          have dd1 := zf.cell 1
          simp at dd0 dd1
          refine bodyPost_ret (v := .tuple #[.agg #[.slice b m cc, .int .i64 nx], .int .i64 5]) (by simp [results, Try.f145, go_sem, dd0, dd1]) rfl ?_
          exact HPP.out
      · rw [if_neg (by simp [hfu])] at hmd
        simp only [ne_eq, not_true_eq_false, if_false] at hmd
        have hi30 : ¬ (30 : Int) ≤ (n : Int) := by omega
        have hd30 : decide ((30 : Int) ≤ (n : Int)) = false := decide_eq_false hi30
        have hi1k : ¬ (1000 : Int) ≤ nx := by omega
        have hd1k : decide ((1000 : Int) ≤ nx) = false := decide_eq_false hi1k
        have HMD : Hid _ := hmd
        obtain ⟨hDm, hnm⟩ := spot_mem HSP.out
        have hDok := (HOK.out.2.2.2.2.1 D hDm).1
        have hD10 := (entsOk_at (ok_parts hDok).2.2.1).1
        have hDs : InoSmall D := HT.out.smallD D (by rw [HDS.out]; exact hDm)
        have hT3 := HT.out.keep HB3.out
        have hcC := l4CopyS a n cap nx rs W3 hT3.len hT3.n hT3.small hT3.rd
        have hnxw : IntKind.i64.wrap (nx + 1) = nx + 1 := wrap_small _ (by omega) (by omega)
        clear hmd hDm hDok hT3 href hrefW
        go_wp2_with fail
        (with_reducible refine hcC.mono ?_)
        rintro e w4 ⟨b, cc, js, rfl, q4, b4⟩
        clear hcC u0 u1
        obtain ⟨m, hm⟩ : ∃ m, js.length = m := ⟨_, rfl⟩
        rw [hm] at q4 ⊢
        obtain ⟨O, hO⟩ : ∃ O, w4.heap.size = O := ⟨_, rfl⟩
        have bO : Below w4.heap.size w4 (w4.alloc (.cells #[.slice b m cc, .int .i64 nx] 26)) := (Below.refl _ w4).alloc (Nat.le_refl _) _
        have b5 := b4.trans (bO.mono b4.size)
        have zO := Blk.new w4 26 #[.slice b m cc, .int .i64 nx]
        have q5 := q4.dqa.keep bO
        have zX5 := Blk.keep HZX.out b5
        have zt5 := Blk.keep HZT3.out b5
        have x4 := zX5.cell 4
        have y1 := zt5.cell 1
        simp at x4 y1
        have hG5 := InoG.keep HG3.out (Nat.le_of_lt hlt) b5
        have hcP := l6PutS b2 D.ents.length d2 D.ents nm nx (w4.alloc (.cells #[.slice b m cc, .int .i64 nx] 26)) rfl (by omega) hG5.rds.ents
        have hs5 : (w4.alloc (.cells #[.slice b m cc, .int .i64 nx] 26)).heap.size = w4.heap.size + 1 := by simp
        obtain ⟨W5, hW5⟩ : ∃ W, w4.alloc (.cells #[.slice b m cc, .int .i64 nx] 26) = W := ⟨_, rfl⟩
        rw [hW5] at bO b5 zO q5 zX5 zt5 x4 y1 hG5 hcP hs5
        go_wp2_with fail
        (with_reducible refine hcP.mono ?_)
        rintro e w5 ⟨g5, c5, rfl, o5, b6⟩
        clear hcP x4 y1
        have x4 := (zX5.keep b6).cell 4
        have xf := (zX5.keep b6).frozen 4
        simp at x4
        have hs56 := b6.size
        have hs34 := b4.size
        have hg5 := (World.ownsRow.lt o5 g5 rfl).1
        -- behind the store of the entries
        have gX := gr_setC w5 w2.heap.size 4 (.slice (some ⟨g5, 0, none⟩) (D.ents.length + 1) c5)
        have zX6 : Blk (w5.setCell ⟨w2.heap.size, 4, none⟩ (.slice (some ⟨g5, 0, none⟩) (D.ents.length + 1) c5)) w2.heap.size 30 #[.int .i64 D.ino, .int .i64 D.kind, .int .i64 D.links, .slice b1 D.data.length d1, .slice (some ⟨g5, 0, none⟩) (D.ents.length + 1) c5, .slice b3 D.attrs.length d3] := (zX5.keep b6).set 4 _
        have zO6 := (zO.keep b6).kept gX (by omega)
        have zt6 := (zt5.keep b6).kept gX (by have := Blk.lt HZT.out; omega)
        have zr6 := ((Blk.keep HZ3.out b5).keep b6).kept gX (by omega)
        have q6 := (q5.keep b6).setX hlt 4 (.slice (some ⟨g5, 0, none⟩) (D.ents.length + 1) c5)
        have o6 := row_kept o5 gX (fun z hz e => by simp [Value.ownBlock] at hz; simp at e; omega)
        have hG6 : InoG (w5.setCell ⟨w2.heap.size, 4, none⟩ (.slice (some ⟨g5, 0, none⟩) (D.ents.length + 1) c5)) w1.heap.size w2.heap.size D (.slice b1 D.data.length d1) (.slice b2 D.ents.length d2) (.slice b3 D.attrs.length d3) := (hG5.keep (by omega) b6).kept fun k h1 h2 => gX.block k (by omega) (by simp; omega)
        have hB6 : Below w.heap.size w (w5.setCell ⟨w2.heap.size, 4, none⟩ (.slice (some ⟨g5, 0, none⟩) (D.ents.length + 1) c5)) := by
          have h1 := HB3.out.trans (b5.mono HB3.out.size)
          have h2 := h1.trans (b6.mono h1.size)
          exact h2.setCell (p := ⟨w2.heap.size, 4, none⟩) (by show w.heap.size ≤ w2.heap.size; have := Blk.lt HZT.out; omega) _
        obtain ⟨E, hE⟩ : ∃ E, ({ D with ents := insBy (fun q => gtS nm q.1) D.ents (nm, nx) } : InoD) = E := ⟨_, rfl⟩
        have hEl : E.ents.length = D.ents.length + 1 := by rw [← hE]; exact insBy_len _ _ _
        have hEr : InoRd (w5.setCell ⟨w2.heap.size, 4, none⟩ (.slice (some ⟨g5, 0, none⟩) (D.ents.length + 1) c5)) E b1 (some ⟨g5, 0, none⟩) b3 := by
          rw [← hE]
          exact ⟨hG6.rds.data, hG6.rds.byt, (show OwnP 67 _ g5 _ c5 _ from row_lower o6 (Nat.zero_le _)).rd, hG6.rds.attrs⟩
        have hEs : InoSmall E := by
          rw [← hE]
          refine ⟨hDs.data, ?_, hDs.attrs, fun q hq => ?_, hDs.attrsz⟩
          · show (insBy _ _ _).length ≤ _
            rw [insBy_len]
            omega
          · rcases insBy_mem.1 hq with rfl | hq
            · show nm.size ≤ _
              omega
            · exact hDs.entsz q hq
        have hT6 : TR (w5.setCell ⟨w2.heap.size, 4, none⟩ (.slice (some ⟨g5, 0, none⟩) (D.ents.length + 1) c5)) b m (js.map InoJ.r) := by
          have hl := q6.len
          rw [hm] at hl
          refine ⟨by rw [List.length_map]; exact hm, ?_, q6.small (fun r hr => HT.out.small r hr), q6.rd hm⟩
          have := HT.out.len
          omega
        have hTD : (js.map InoJ.r).map InoR.D = ds := by rw [q6.ds, HDS.out]
        have e1 : D.ino = E.ino ∧ D.kind = E.kind ∧ D.links = E.links ∧ D.data.length = E.data.length ∧ D.attrs.length = E.attrs.length := by rw [← hE]; exact ⟨rfl, rfl, rfl, rfl, rfl⟩
        have hc1 := setT b m cc nx (js.map InoJ.r) E b1 (some ⟨g5, 0, none⟩) b3 d1 c5 d3 (w5.setCell ⟨w2.heap.size, 4, none⟩ (.slice (some ⟨g5, 0, none⟩) (D.ents.length + 1) c5)).drew (hT6.keep (Below.refl _ _).drew) hEs (hEr.keep (Below.refl _ _).drew)
        rw [hTD, ← e1.1, ← e1.2.1, ← e1.2.2.1, ← e1.2.2.2.1, ← e1.2.2.2.2, hEl] at hc1
        have HK : Hid (∀ W : World, Below (w5.setCell ⟨w2.heap.size, 4, none⟩ (.slice (some ⟨g5, 0, none⟩) (D.ents.length + 1) c5)).heap.size (w5.setCell ⟨w2.heap.size, 4, none⟩ (.slice (some ⟨g5, 0, none⟩) (D.ents.length + 1) c5)) W → (W.cell? ⟨O, 0, none⟩ = some (.slice b m cc) ∧ W.cell? ⟨O, 1, none⟩ = some (.int .i64 nx) ∧ W.cell? ⟨w2.heap.size, 0, none⟩ = some (.int .i64 D.ino) ∧ W.cell? ⟨w2.heap.size, 1, none⟩ = some (.int .i64 D.kind) ∧ W.cell? ⟨w2.heap.size, 2, none⟩ = some (.int .i64 D.links) ∧ W.cell? ⟨w2.heap.size, 3, none⟩ = some (.slice b1 D.data.length d1) ∧ W.cell? ⟨w2.heap.size, 4, none⟩ = some (.slice (some ⟨g5, 0, none⟩) (D.ents.length + 1) c5) ∧ W.cell? ⟨w2.heap.size, 5, none⟩ = some (.slice b3 D.attrs.length d3) ∧ W.cell? ⟨w.heap.size, 1, none⟩ = some (.int .i64 nx)) ∧ Blk W O 26 #[.slice b m cc, .int .i64 nx] ∧ Blk W (w.heap.size + 1) 26 #[.slice none 0 0, .int .i64 0] ∧ Blk W w.heap.size 26 #[.slice a n cap, .int .i64 nx]) := fun W hW => by
          have p1 := zO6.keep hW
          have p2 := zX6.keep hW
          rw [hO] at p1
          exact ⟨⟨p1.cell 0, p1.cell 1, p2.cell 0, p2.cell 1, p2.cell 2, p2.cell 3, p2.cell 4, p2.cell 5, (zt6.keep hW).cell 1⟩, p1, zr6.keep hW, zt6.keep hW⟩
        have HB6 : Hid _ := hB6
        have hdl : ds.length = n := HDN.out
        have HEs : Hid _ := hEs
        have HSm : Hid (∀ F ∈ ds, InoSmall F) := by
          intro F hF
          exact HT.out.smallD F (by rw [HDS.out]; exact hF)
        have HMD2 : Hid (makeD nx ds s kd = (nx + 1, setD (setD ds E) ⟨nx, kd, 1, [], [], []⟩, 0)) := by
          show _ = _
          rw [HMD.out, hE]
        clear hG5 hG6 zX5 zt5 zO q5 q4 q6 o5 o6 hT6 hEr hEs hTD e1 hEl hE zO6 zX6 zt6 zr6 gX hB6 bO b5 b6 b4 HMD
        obtain ⟨W6, hW6⟩ : ∃ W, w5.setCell ⟨w2.heap.size, 4, none⟩ (.slice (some ⟨g5, 0, none⟩) (D.ents.length + 1) c5) = W := ⟨_, rfl⟩
        rw [hW6] at hc1 HK HB6
        go_upto_region 10 with fail
        obtain ⟨⟨k0, k1, k2, k3, k4, k5, k6, k7, k8⟩, zO7, zR7, _⟩ := HK.out W6 (Below.refl _ _)
        have hOl := zO7.lt
        have hRl := zR7.lt
        have hOR : w.heap.size + 1 < O := by omega
        clear zO7 zR7
        clear x4 xf
        go_region_law (first
          | (go_simp; go_at_call 14; (with_reducible refine hc1.mono ?_); rintro e V1 ⟨v1, rfl, tA⟩; obtain ⟨a2, n2, c2, rs2, rfl, hT2, hD2, bV1⟩ := tA.tr (setD_small HSm.out HEs.out) (by have := setD_len ds E; omega); have bW1 : Below W6.heap.size W6 V1 := (Below.refl _ W6).drew.trans bV1; obtain ⟨⟨j0, j1, j2, j3, j4, j5, j6, j7, j8⟩, _, _⟩ := HK.out V1 bW1; have hc2 := setT a2 n2 c2 nx rs2 ⟨nx, kd, 1, [], [], []⟩ none none none 0 0 0 V1 hT2 ⟨by simp, by simp, by simp, by simp, by simp⟩ ⟨.inl rfl, fun z hz => by simp at hz, .inl rfl, .inl rfl⟩; rw [hD2] at hc2; dsimp only [List.length_nil] at hc2; dsimp only)
          | (go_simp; go_at_call 14; (with_reducible refine hc2.mono ?_); rintro e V2 ⟨v2, rfl, a3, cc3, js3, rfl, q3, bV2⟩; have bW2 : Below W6.heap.size W6 V2 := bW1.trans (bV2.mono bW1.size); obtain ⟨⟨i0, i1, i2, i3, i4, i5, i6, i7, i8⟩, zO8, zR8, zT8⟩ := HK.out V2 bW2; have of0 := zO8.frozen 0; have of1 := zO8.frozen 1; obtain ⟨m3, hm3⟩ : ∃ m, js3.length = m := ⟨_, rfl⟩; rw [hm3] at q3 ⊢; obtain ⟨V8, hV8⟩ : ∃ V, (V2.setCell ⟨O, 0, none⟩ (.slice a3 m3 cc3)).setCell ⟨O, 1, none⟩ (.int .i64 nx) = V := ⟨_, rfl⟩; have zO9 := blk2 zO8 (.slice a3 m3 cc3) (.int .i64 nx); have zR9 := (zR8.other (B' := O) (by omega) 0 (.slice a3 m3 cc3)).other (B' := O) (by omega) 1 (.int .i64 nx); have zT9 := (zT8.other (B' := O) (by omega) 0 (.slice a3 m3 cc3)).other (B' := O) (by omega) 1 (.int .i64 nx); rw [hV8] at zO9 zR9 zT9; have oc0 := zO9.cell 0; have oc1 := zO9.cell 1; have og1 := zO9.frozen 1; have tc1 := zT9.cell 1; simp at oc0 oc1 tc1; have zO10 := zO9.set 1 (.int .i64 (nx + 1)); have zR10 := zR9.other (B' := O) (by omega) 1 (.int .i64 (nx + 1)); have pc0 := zO10.cell 0; have pc1 := zO10.cell 1; have rc0 := zR10.cell 0; have rc1 := zR10.cell 1; have rf0 := zR10.frozen 0; have rf1 := zR10.frozen 1; simp at pc0 pc1 rc0 rc1; have hVs := bW1.size; have q8 := (((q3.setX (X := O) (by omega) 0 (.slice a3 m3 cc3)).setX (X := O) (by omega) 1 (.int .i64 nx))); have hB8 : Below w.heap.size w ((V2.setCell ⟨O, 0, none⟩ (.slice a3 m3 cc3)).setCell ⟨O, 1, none⟩ (.int .i64 nx)) := ((HB6.out.trans (bW2.mono HB6.out.size)).setCell (p := ⟨O, 0, none⟩) (by show w.heap.size ≤ O; omega) _).setCell (p := ⟨O, 1, none⟩) (by show w.heap.size ≤ O; omega) _; rw [hV8] at q8 hB8; have HQ : Hid _ := And.intro zR10 (And.intro (q8.setX (X := O) (by omega) 1 (.int .i64 (nx + 1))) (hB8.setCell (p := ⟨O, 1, none⟩) (by show w.heap.size ≤ O; omega) (.int .i64 (nx + 1)))); clear zO8 zR8 zT8 zO9 zR9 zT9 zO10 zR10 q3 q8 hB8; dsimp only)
          | fail)
        all_goals clear k0 k1 k2 k3 k4 k5 k6 k7 k8 j0 j1 j2 j3 j4 j5 j6 j7 j8 i0 i1 i2 i3 i4 i5 i6 i7 i8 hc1 hc2
        all_goals go_wp2
        all_goals
          have zf := blk2 HQ.out.1 (.slice a3 m3 cc3) (.int .i64 (nx + 1))
          have dd0 := zf.cell 0
          have dd1 := zf.cell 1
          simp at dd0 dd1
          refine bodyPost_ret (v := .tuple #[.agg #[.slice a3 m3 cc3, .int .i64 (nx + 1)], .int .i64 0]) (by simp [results, Try.f145, go_sem, dd0, dd1]) rfl ?_
          have hq := HQ.out.2.1.boxed HQ.out.2.2 (R := w.heap.size + 1) (by omega) (by have := bV1.size; have := bW1.size; omega) (.slice a3 m3 cc3) (.int .i64 (nx + 1))
          subst hm3
          exact hp.out _ _ _ _ _ HMD2.out ⟨a3, cc3, js3, rfl, hq.1, hq.2⟩
    · have hcb : (c != 0) = true := by simpa using hc0
      have hcb' : (c == 0) = false := by simpa using hc0
      rw [if_neg (by simp [hc0]), if_pos hc0] at hmd
      have hcC := hrefW.out c hmd
      clear hmd
      go_wp2_with fail
      (with_reducible refine hcC.mono ?_)
      rintro e w4 ⟨b, m, cc, rfl, z4, hP⟩
      have HPP : Hid _ := hP
      have HZ4 : Hid _ := z4
      have r0 := z4.cell 0
      have r1 := z4.cell 1
      have f0 := z4.frozen 0
      have f1 := z4.frozen 1
      simp at r0 r1
      clear z4 hP hcC u0 u1
      go_wp2
      have zf := blk2 HZ4.out (.slice b m cc) (.int .i64 nx)
      have dd0 := zf.cell 0
      have dd1 := zf.cell 1
      simp at dd0 dd1
      refine bodyPost_ret (v := .tuple #[.agg #[.slice b m cc, .int .i64 nx], .int .i64 c]) (by simp [results, Try.f145, go_sem, dd0, dd1]) rfl ?_
      exact HPP.out
set_option maxRecDepth 100000 in
set_option maxHeartbeats 2000000 in
theorem makeDirS (a : Option Addr) (n cap : Nat) (nx : Int) (rs : List InoR) (s : ByteArray) (w : World) (ht : TR w a n rs) (hs : s.size ≤ 4000000) :
    Calls Try.prog 108 #[.agg #[.slice a n cap, .int .i64 nx], .string s] w fun e w' => TabC w (makeD nx (rs.map InoR.D) s 2).1 (makeD nx (rs.map InoR.D) s 2).2.1 (makeD nx (rs.map InoR.D) s 2).2.2 e w' := by
  have B0 : Below w.heap.size w ((w.alloc (.cells #[.slice a n cap, .int .i64 nx] 26)).alloc (.cells #[.slice none 0 0, .int .i64 0] 26)) := ((Below.refl _ w).alloc (Nat.le_refl _) _).alloc (by simp) _
  have zR := Blk.new (w.alloc (.cells #[.slice a n cap, .int .i64 nx] 26)) 26 #[.slice none 0 0, .int .i64 0]
  simp only [World.size_alloc] at zR
  obtain ⟨x, l, q, hm⟩ : ∃ x l q, makeD nx (rs.map InoR.D) s 2 = (x, l, q) := ⟨_, _, _, rfl⟩
  rw [hm]
  dsimp only
  go_enter Try.func108, Try.ntmps108
  go_wp2_with fail
  obtain ⟨W0, hW0⟩ : ∃ W, (w.alloc (.cells #[.slice a n cap, .int .i64 nx] 26)).alloc (.cells #[.slice none 0 0, .int .i64 0] 26) = W := ⟨_, rfl⟩
  rw [hW0] at B0 zR ⊢
  clear hW0
  have hc := makeS a n cap nx rs s 2 W0 (ht.keep B0) hs
  rw [hm] at hc
  dsimp only at hc
  clear hm ht
  (with_reducible refine hc.mono ?_)
  rintro e w1 ⟨b, cc, js, rfl, q1, b1⟩
  clear hc
  have z1 := zR.keep b1
  obtain ⟨m, hm⟩ : ∃ m, js.length = m := ⟨_, rfl⟩
  rw [hm] at q1 ⊢
  have r0 := z1.cell 0
  have r1 := z1.cell 1
  have f0 := z1.frozen 0
  have f1 := z1.frozen 1
  simp at r0 r1
  have HQ : Hid _ := And.intro z1 (q1.boxed (B0.trans (b1.mono B0.size)) (R := w.heap.size + 1) (by omega) zR.lt (.slice b m cc) (.int .i64 x))
  have HM : Hid _ := hm
  clear q1 b1 z1 zR B0 hm
  go_wp2
  have zf := blk2 HQ.out.1 (.slice b m cc) (.int .i64 x)
  have dd0 := zf.cell 0
  have dd1 := zf.cell 1
  simp at dd0 dd1
  refine bodyPost_ret (v := .tuple #[.agg #[.slice b m cc, .int .i64 x], .int .i64 q]) (by simp [results, Try.f108, go_sem, dd0, dd1]) rfl ?_
  have := HM.out
  subst this
  exact ⟨b, cc, js, rfl, HQ.out.2.1, HQ.out.2.2⟩
set_option maxRecDepth 100000 in
set_option maxHeartbeats 2000000 in
theorem makeFileS (a : Option Addr) (n cap : Nat) (nx : Int) (rs : List InoR) (s : ByteArray) (w : World) (ht : TR w a n rs) (hs : s.size ≤ 4000000) :
    Calls Try.prog 109 #[.agg #[.slice a n cap, .int .i64 nx], .string s] w fun e w' => TabC w (makeD nx (rs.map InoR.D) s 1).1 (makeD nx (rs.map InoR.D) s 1).2.1 (makeD nx (rs.map InoR.D) s 1).2.2 e w' := by
  have B0 : Below w.heap.size w ((w.alloc (.cells #[.slice a n cap, .int .i64 nx] 26)).alloc (.cells #[.slice none 0 0, .int .i64 0] 26)) := ((Below.refl _ w).alloc (Nat.le_refl _) _).alloc (by simp) _
  have zR := Blk.new (w.alloc (.cells #[.slice a n cap, .int .i64 nx] 26)) 26 #[.slice none 0 0, .int .i64 0]
  simp only [World.size_alloc] at zR
  obtain ⟨x, l, q, hm⟩ : ∃ x l q, makeD nx (rs.map InoR.D) s 1 = (x, l, q) := ⟨_, _, _, rfl⟩
  rw [hm]
  dsimp only
  go_enter Try.func109, Try.ntmps109
  go_wp2_with fail
  obtain ⟨W0, hW0⟩ : ∃ W, (w.alloc (.cells #[.slice a n cap, .int .i64 nx] 26)).alloc (.cells #[.slice none 0 0, .int .i64 0] 26) = W := ⟨_, rfl⟩
  rw [hW0] at B0 zR ⊢
  clear hW0
  have hc := makeS a n cap nx rs s 1 W0 (ht.keep B0) hs
  rw [hm] at hc
  dsimp only at hc
  clear hm ht
  (with_reducible refine hc.mono ?_)
  rintro e w1 ⟨b, cc, js, rfl, q1, b1⟩
  clear hc
  have z1 := zR.keep b1
  obtain ⟨m, hm⟩ : ∃ m, js.length = m := ⟨_, rfl⟩
  rw [hm] at q1 ⊢
  have r0 := z1.cell 0
  have r1 := z1.cell 1
  have f0 := z1.frozen 0
  have f1 := z1.frozen 1
  simp at r0 r1
  have HQ : Hid _ := And.intro z1 (q1.boxed (B0.trans (b1.mono B0.size)) (R := w.heap.size + 1) (by omega) zR.lt (.slice b m cc) (.int .i64 x))
  have HM : Hid _ := hm
  clear q1 b1 z1 zR B0 hm
  go_wp2
  have zf := blk2 HQ.out.1 (.slice b m cc) (.int .i64 x)
  have dd0 := zf.cell 0
  have dd1 := zf.cell 1
  simp at dd0 dd1
  refine bodyPost_ret (v := .tuple #[.agg #[.slice b m cc, .int .i64 x], .int .i64 q]) (by simp [results, Try.f109, go_sem, dd0, dd1]) rfl ?_
  have := HM.out
  subst this
  exact ⟨b, cc, js, rfl, HQ.out.2.1, HQ.out.2.2⟩
end

section
open Go.RowKit
def cutE (es : List (ByteArray × Int)) (nm : ByteArray) : List (ByteArray × Int) := es.filter fun q => decide (q.1 ≠ nm)
theorem cutE_take {es : List (ByteArray × Int)} {nm : ByteArray} {k : Nat} {q : ByteArray × Int} (h : es[k]? = some q) : cutE (es.take (k + 1)) nm = cutE (es.take k) nm ++ (if q.1 = nm then [] else [q]) := by
  unfold cutE
  rw [List.take_add_one, h, List.filter_append]
  by_cases hq : q.1 = nm
  · simp [hq]
  · simp [hq]
theorem cutE_le (es : List (ByteArray × Int)) (nm : ByteArray) (k : Nat) : (cutE (es.take k) nm).length ≤ k := by
  have := List.length_filter_le (fun q : ByteArray × Int => decide (q.1 ≠ nm)) (es.take k)
  unfold cutE
  simp only [List.length_take] at this
  omega
set_option maxRecDepth 100000 in
set_option maxHeartbeats 4000000 in
theorem l6CutS (a : Option Addr) (n cap : Nat) (es : List (ByteArray × Int)) (nm : ByteArray) (w : World) (hn : es.length = n) (hs : n ≤ 1048576) (hr : RdP w a (eP es)) :
    Calls Try.prog 167 #[.slice a n cap, .string nm] w fun e w' => ∃ g c, e = .returned (.slice (some ⟨g, 0, none⟩) (cutE es nm).length c) ∧ w'.ownsRow w.heap.size 67 2 (.slice (some ⟨g, 0, none⟩) (cutE es nm).length c) (cutE es nm).length (pv (eP (cutE es nm))) ∧ Below w.heap.size w w' := by
  have hn' : Hid (es.length = n) := hn
  obtain ⟨i0, hi, hz0, hz1, hz2⟩ := info_parts Try.infoEnt
  have B0 : Below w.heap.size w (w.alloc (.cells #[] 67)) := (Below.refl _ w).alloc (Nat.le_refl _) _
  have oE : (w.alloc (.cells #[] 67)).ownsRow w.heap.size 67 2 (.slice (some ⟨w.heap.size, 0, none⟩) (cutE (es.take 0) nm).length 0) (cutE (es.take 0) nm).length (pv (eP (cutE (es.take 0) nm))) := empty_row w w.heap.size 67 2 (Nat.le_refl _)
  have HR : Hid _ := hr
  obtain ⟨R, hR⟩ : ∃ R, cutE es nm = R := ⟨_, rfl⟩
  rw [hR]
  have HRR : Hid _ := hR
  clear hn hr hR
  go_enter Try.func167, Try.ntmps167
  go_wp2
  go_loopw [5, 6] (fun o i wr => ∃ (k g c m : Nat), k ≤ n ∧ i = .int .i64 k ∧ o = .slice (some ⟨g, 0, none⟩) m c ∧ (cutE (es.take k) nm).length = m ∧ wr.ownsRow w.heap.size 67 2 (.slice (some ⟨g, 0, none⟩) m c) m (pv (eP (cutE (es.take k) nm))) ∧ Below w.heap.size w wr) (fun _ i _ => n - (intOf i).toNat)
  case atStart => exact ⟨0, w.heap.size, 0, 0, Nat.zero_le _, rfl, rfl, rfl, oE, B0⟩
  case round =>
    obtain ⟨k, g, c, m, hk, rfl, rfl, hm, ho, hB⟩ := hrel
    clear oE B0
    by_cases hkn : k < n
    · have hki : (k : Int) < (n : Int) := by omega
      have hkl : k < es.length := by rw [hn'.out]; exact hkn
      obtain ⟨b, off, rfl, hlt, hc⟩ := RdP.lt HR.out (by intro h; have := congrArg List.length h; rw [eP_length] at this; simp at this; rw [this] at hkl; simp at hkl)
      have hx := hc k (by rw [eP_length]; exact hkl)
      rw [eP_at es k hkl] at hx
      have hct := cutE_take (nm := nm) (List.getElem?_eq_getElem hkl)
      have hle := cutE_le es nm k
      obtain ⟨z, u, hzu⟩ : ∃ z u, es[k] = (z, u) := ⟨_, _, rfl⟩
      rw [hzu] at hx hct
      have x1 : wr.cell? ⟨b, off + k * 2, none⟩ = some (.string z) := (hB.cell (p := ⟨b, off + k * 2, none⟩) hlt).trans hx.1
      have x2 : wr.cell? ⟨b, off + k * 2 + 1, none⟩ = some (.int .i64 u) := (hB.cell (p := ⟨b, off + k * 2 + 1, none⟩) hlt).trans hx.2
      dsimp only at hct
      rw [hm] at hle
      by_cases hz : z = nm
      · rw [if_pos hz, List.append_nil] at hct
        have hnx : Hid _ := hct
        have heb : (z.toList == nm.toList) = true := by rw [hz]; exact beq_self_eq_true _
        have heb' : (z.toList != nm.toList) = false := by rw [bne, heb]; rfl
        subst hz
        clear hc hx hct hzu hle
        go_wp2
        go_roundw
        case rel => exact ⟨k + 1, g, c, m, by omega, by go_num, rfl, by rw [hnx.out]; exact hm, by rw [hnx.out]; exact ho, hB⟩
        case measure => simp [intOf]; omega
      · rw [if_neg hz] at hct
        have hnx : Hid _ := hct
        have heb := bytes_ne hz
        have heb' : (z.toList != nm.toList) = true := by rw [bne, heb]; rfl
        have hap := app_pair (wr.alloc (.cells #[.string z, .int .i64 u] 67)) w.heap.size 27 67 i0 (.agg #[.string ⟨#[]⟩, .int .i64 0]) 24 Try.underlying27 hi hz0 hz1 hz2 rfl (by omega) g m c (eP (cutE (es.take k) nm)) (World.ownsRow.alloc ho _) (by omega) wr.heap.size (.string z, .int .i64 u) ((Blk.new wr 67 #[.string z, .int .i64 u]).cell 0) ((Blk.new wr 67 #[.string z, .int .i64 u]).cell 1) rfl rfl (by have := hB.size; simp; omega)
        clear hc hx hct hzu
        go_wp2_with (at_builtin; refine wpList_run _ rfl (.tmp 21) (.tmp 26) 27 rfl (.slice (some ⟨g, 0, none⟩) m c) (.slice (some ⟨wr.heap.size, 0, none⟩) 1 1) rfl rfl _ hap ?_; rintro v5 V5 ⟨g5, c5, rfl, o5, hg5, hat5⟩)
        have hB1 := hB.alloc hB.size (.cells #[.string z, .int .i64 u] 67)
        have hlow := (World.ownsRow.lt ho g rfl).1
        have hB2 := hB1.grown hg5 hB1.size (fun q hq => by simp at hq; omega)
        have hfin : Hid (V5.ownsRow w.heap.size 67 2 (.slice (some ⟨g5, 0, none⟩) (m + 1) c5) (m + 1) (pv (eP (cutE (es.take (k + 1)) nm))) ∧ Below w.heap.size w V5) := ⟨by rw [hnx.out, eP_snoc]; exact o5, hB2⟩
        have hlen : Hid ((cutE (es.take (k + 1)) nm).length = m + 1) := by show _ = _; rw [hnx.out, List.length_append, hm]; rfl
        clear hap o5 hg5 hB1 hB2 ho hB x1 x2 hat5
        go_wp2
        go_roundw
        all_goals first
          | (case rel => (repeat apply Exists.intro); exact ⟨⟨k + 1, g5, c5, m + 1, by omega, by go_num, rfl, hlen.out, hfin.out⟩, rfl⟩)
          | (case rel => exact ⟨k + 1, g5, c5, m + 1, by omega, by go_num, rfl, hlen.out, hfin.out⟩)
          | (case measure => simp [intOf]; omega)
          | fail
    · have hki : ¬ (k : Int) < (n : Int) := by omega
      have he : es.take k = es := List.take_of_length_le (by rw [hn'.out]; omega)
      rw [he, HRR.out] at hm ho
      subst hm
      have HD : Hid _ := And.intro ho hB
      clear ho hB
      go_wp2
      go_ret
      first | exact ⟨_, _, rfl, HD.out⟩ | exact ⟨_, ⟨_, rfl⟩, HD.out⟩
end

section
open Go.RowKit
/-- A table without an entry. -/
def dropP (ds : List InoD) (s : ByteArray) : List InoD := setD ds { (statD ds (strB (parentOf s.data.toList).1)).1 with ents := cutE (statD ds (strB (parentOf s.data.toList).1)).1.ents (strB (parentOf s.data.toList).2.1) }
theorem cutE_small {D : InoD} (h : InoSmall D) (nm : ByteArray) : InoSmall { D with ents := cutE D.ents nm } := by
  refine ⟨h.data, ?_, h.attrs, fun q hq => h.entsz q (List.mem_filter.1 hq).1, h.attrsz⟩
  exact Nat.le_trans (List.length_filter_le _ _) h.ents
set_option maxRecDepth 100000 in
set_option maxHeartbeats 8000000 in
theorem dropPS (a : Option Addr) (n cap : Nat) (nx : Int) (rs : List InoR) (s : ByteArray) (w : World) (ht : TR w a n rs) (hs : s.size ≤ 4000000) :
    Calls Try.prog 149 #[.agg #[.slice a n cap, .int .i64 nx], .string s] w fun e w' => ∃ v, e = .returned v ∧ TabAt w nx (dropP (rs.map InoR.D) s) v w' := by
  have B0 : Below w.heap.size w ((w.alloc (.cells #[.slice a n cap, .int .i64 nx] 26)).alloc (.cells #[.slice none 0 0, .int .i64 0] 26)) := ((Below.refl _ w).alloc (Nat.le_refl _) _).alloc (by simp) _
  have zT : Blk ((w.alloc (.cells #[.slice a n cap, .int .i64 nx] 26)).alloc (.cells #[.slice none 0 0, .int .i64 0] 26)) w.heap.size 26 #[.slice a n cap, .int .i64 nx] := (Blk.new w _ _).alloc _
  have zR := Blk.new (w.alloc (.cells #[.slice a n cap, .int .i64 nx] 26)) 26 #[.slice none 0 0, .int .i64 0]
  simp only [World.size_alloc] at zR
  obtain ⟨ds, hds⟩ : ∃ ds, rs.map InoR.D = ds := ⟨_, rfl⟩
  rw [hds]
  have HDS : Hid _ := hds
  have HT : Hid _ := ht
  have HSm : Hid (∀ F ∈ ds, InoSmall F) := by
    intro F hF
    exact ht.smallD F (by rw [hds]; exact hF)
  have hn1 := ht.n
  obtain ⟨R, hR⟩ : ∃ R, dropP ds s = R := ⟨_, rfl⟩
  rw [hR]
  unfold dropP at hR
  have hps := parent_small s.data.toList
  go_enter Try.func149, Try.ntmps149
  go_wp2_with fail
  obtain ⟨W0, hW0⟩ : ∃ W, (w.alloc (.cells #[.slice a n cap, .int .i64 nx] 26)).alloc (.cells #[.slice none 0 0, .int .i64 0] 26) = W := ⟨_, rfl⟩
  rw [hW0] at B0 zT zR ⊢
  clear hW0 ht hds
  refine (parentS s W0 hs).mono ?_
  rintro e w1 ⟨bb1, rfl⟩
  obtain ⟨P1, P2, P3, hP⟩ : ∃ P1 P2 P3, parentOf s.data.toList = (P1, P2, P3) := ⟨_, _, _, rfl⟩
  rw [hP] at hR hps ⊢
  dsimp only at hR hps ⊢
  have hB1 := B0.trans (bb1.mono B0.size)
  have zr1 := zR.keep bb1
  have zt1 := zT.keep bb1
  have t0 := zt1.cell 0
  have t1 := zt1.cell 1
  simp at t0 t1
  have hcS := statS a n cap nx rs (strB P1) w1 (HT.out.keep hB1) (by rw [strB_size]; omega)
  rw [HDS.out] at hcS
  have hsm : InoSmall (statD ds (strB P1)).1 := statD_small HSm.out
  obtain ⟨D, c, hDc⟩ : ∃ D c, statD ds (strB P1) = (D, c) := ⟨_, _, rfl⟩
  rw [hDc] at hR hcS hsm
  dsimp only at hR hcS hsm
  have hrl : w.heap.size + 1 < w1.heap.size := zr1.lt
  clear B0 zR zT bb1 hP hDc
  go_wp2_with fail
  (with_reducible refine hcS.mono ?_)
  rintro e w2 ⟨b1, d1, b2, d2, b3, d3, rfl, g2, bb2⟩
  clear hcS t0 t1
  have hs12 := bb2.size
  have zr3 := (zr1.keep bb2).alloc (.cells #[.int .i64 D.ino, .int .i64 D.kind, .int .i64 D.links, .slice b1 D.data.length d1, .slice b2 D.ents.length d2, .slice b3 D.attrs.length d3] 30)
  have zt3 := (zt1.keep bb2).alloc (.cells #[.int .i64 D.ino, .int .i64 D.kind, .int .i64 D.links, .slice b1 D.data.length d1, .slice b2 D.ents.length d2, .slice b3 D.attrs.length d3] 30)
  have hb2 := hB1.trans (bb2.mono hB1.size)
  have hb3 := hb2.alloc hb2.size (.cells #[.int .i64 D.ino, .int .i64 D.kind, .int .i64 D.links, .slice b1 D.data.length d1, .slice b2 D.ents.length d2, .slice b3 D.attrs.length d3] 30)
  have zX := Blk.new w2 30 #[.int .i64 D.ino, .int .i64 D.kind, .int .i64 D.links, .slice b1 D.data.length d1, .slice b2 D.ents.length d2, .slice b3 D.attrs.length d3]
  have g3 := g2.keep (Nat.le_refl _) ((Below.refl _ w2).alloc (Nat.le_refl _) (.cells #[.int .i64 D.ino, .int .i64 D.kind, .int .i64 D.links, .slice b1 D.data.length d1, .slice b2 D.ents.length d2, .slice b3 D.attrs.length d3] 30))
  have hlt : w2.heap.size < (w2.alloc (.cells #[.int .i64 D.ino, .int .i64 D.kind, .int .i64 D.links, .slice b1 D.data.length d1, .slice b2 D.ents.length d2, .slice b3 D.attrs.length d3] 30)).heap.size := by simp
  obtain ⟨W3, hW3⟩ : ∃ W, w2.alloc (.cells #[.int .i64 D.ino, .int .i64 D.kind, .int .i64 D.links, .slice b1 D.data.length d1, .slice b2 D.ents.length d2, .slice b3 D.attrs.length d3] 30) = W := ⟨_, rfl⟩
  rw [hW3] at zr3 zt3 hb3 zX g3 hlt
  have x4 := zX.cell 4
  simp at x4
  have hcC := l6CutS b2 D.ents.length d2 D.ents (strB P2) W3 rfl hsm.ents g3.rds.ents
  clear zr1 zt1 hB1 hb2 g2 bb2
  go_wp2_with fail
  (with_reducible refine hcC.mono ?_)
  rintro e w5 ⟨g5, c5, rfl, o5, b6⟩
  clear hcC x4
  have x4 := (zX.keep b6).cell 4
  have xf := (zX.keep b6).frozen 4
  simp at x4
  have hs56 := b6.size
  have hg5 := (World.ownsRow.lt o5 g5 rfl).1
  have gX := gr_setC w5 w2.heap.size 4 (.slice (some ⟨g5, 0, none⟩) (cutE D.ents (strB P2)).length c5)
  have zX6 : Blk (w5.setCell ⟨w2.heap.size, 4, none⟩ (.slice (some ⟨g5, 0, none⟩) (cutE D.ents (strB P2)).length c5)) w2.heap.size 30 #[.int .i64 D.ino, .int .i64 D.kind, .int .i64 D.links, .slice b1 D.data.length d1, .slice (some ⟨g5, 0, none⟩) (cutE D.ents (strB P2)).length c5, .slice b3 D.attrs.length d3] := (zX.keep b6).set 4 _
  have zt6 := (zt3.keep b6).kept gX (by omega)
  have zr6 := (zr3.keep b6).kept gX (by omega)
  have o6 := row_kept o5 gX (fun z hz e => by simp [Value.ownBlock] at hz; simp at e; omega)
  have hG6 : InoG (w5.setCell ⟨w2.heap.size, 4, none⟩ (.slice (some ⟨g5, 0, none⟩) (cutE D.ents (strB P2)).length c5)) w1.heap.size w2.heap.size D (.slice b1 D.data.length d1) (.slice b2 D.ents.length d2) (.slice b3 D.attrs.length d3) := (g3.keep (by omega) b6).kept fun k h1 h2 => gX.block k (by omega) (by simp; omega)
  have hB6 : Below w.heap.size w (w5.setCell ⟨w2.heap.size, 4, none⟩ (.slice (some ⟨g5, 0, none⟩) (cutE D.ents (strB P2)).length c5)) := by
    have h2 := hb3.trans (b6.mono hb3.size)
    exact h2.setCell (p := ⟨w2.heap.size, 4, none⟩) (by show w.heap.size ≤ w2.heap.size; omega) _
  obtain ⟨E, hE⟩ : ∃ E, ({ D with ents := cutE D.ents (strB P2) } : InoD) = E := ⟨_, rfl⟩
  have hEl : E.ents.length = (cutE D.ents (strB P2)).length := by rw [← hE]
  have hEr : InoRd (w5.setCell ⟨w2.heap.size, 4, none⟩ (.slice (some ⟨g5, 0, none⟩) (cutE D.ents (strB P2)).length c5)) E b1 (some ⟨g5, 0, none⟩) b3 := by
    rw [← hE]
    exact ⟨hG6.rds.data, hG6.rds.byt, (show OwnP 67 _ g5 _ c5 _ from row_lower o6 (Nat.zero_le _)).rd, hG6.rds.attrs⟩
  have hEs : InoSmall E := by rw [← hE]; exact cutE_small hsm _
  have e1 : D.ino = E.ino ∧ D.kind = E.kind ∧ D.links = E.links ∧ D.data.length = E.data.length ∧ D.attrs.length = E.attrs.length := by rw [← hE]; exact ⟨rfl, rfl, rfl, rfl, rfl⟩
  have hcF := setT a n cap nx rs E b1 (some ⟨g5, 0, none⟩) b3 d1 c5 d3 (w5.setCell ⟨w2.heap.size, 4, none⟩ (.slice (some ⟨g5, 0, none⟩) (cutE D.ents (strB P2)).length c5)) (HT.out.keep hB6) hEs hEr
  rw [HDS.out, ← e1.1, ← e1.2.1, ← e1.2.2.1, ← e1.2.2.2.1, ← e1.2.2.2.2, hEl] at hcF
  have HRR : Hid (setD ds E = R) := by show _ = _; rw [← hR, hE]
  obtain ⟨y0, y1, y2, y3, y4, y5⟩ := zX6.six
  have t0 := zt6.cell 0
  have t1 := zt6.cell 1
  simp at t0 t1
  obtain ⟨W6, hW6⟩ : ∃ W, w5.setCell ⟨w2.heap.size, 4, none⟩ (.slice (some ⟨g5, 0, none⟩) (cutE D.ents (strB P2)).length c5) = W := ⟨_, rfl⟩
  rw [hW6] at hcF hB6 zr6 y0 y1 y2 y3 y4 y5 t0 t1
  have HZ6 : Hid _ := zr6
  have HB6 : Hid _ := hB6
  clear zX zt3 zr3 hb3 g3 o5 b6 gX zX6 zt6 zr6 o6 hG6 hB6 hE hEl hEr hEs e1 hR hsm
  go_wp2_with fail
  (with_reducible refine hcF.mono ?_)
  rintro e w7 ⟨v, rfl, b, cc, js, rfl, q7, b7⟩
  clear hcF t0 t1 y0 y1 y2 y3 y4 y5
  obtain ⟨m, hm⟩ : ∃ m, js.length = m := ⟨_, rfl⟩
  rw [hm] at q7 ⊢
  have z7 := Blk.keep HZ6.out b7
  have r0 := z7.cell 0
  have r1 := z7.cell 1
  have f0 := z7.frozen 0
  have f1 := z7.frozen 1
  simp at r0 r1
  have HQ : Hid _ := And.intro z7 (q7.boxed (HB6.out.trans (b7.mono HB6.out.size)) (R := w.heap.size + 1) (by omega) (Blk.lt HZ6.out) (.slice b m cc) (.int .i64 nx))
  clear z7 q7 b7
  go_wp2
  have zf := blk2 HQ.out.1 (.slice b m cc) (.int .i64 nx)
  have dd0 := zf.cell 0
  have dd1 := zf.cell 1
  simp at dd0 dd1
  refine bodyPost_ret (v := .agg #[.slice b m cc, .int .i64 nx]) (by simp [results, Try.f149, go_sem, dd0, dd1]) rfl ?_
  subst hm
  have h1 := HQ.out.2
  rw [HRR.out] at h1
  exact ⟨_, rfl, b, cc, js, rfl, h1.1, h1.2⟩
end
end Go.Proofs.Ytgcmpimckpnemaa
