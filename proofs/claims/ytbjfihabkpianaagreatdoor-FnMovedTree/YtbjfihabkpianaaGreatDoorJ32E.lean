/-
  Joined: LawC, TruncT, DirForI, DrawI.
-/
import Derived.Test.YtbjfihabkpianaaGreatDoorJ27E
import Derived.Lib.AppendZerosOnto
import Derived.Laws.CopyRow
import Derived.Laws.StructEq
import Derived.Laws.BytesString
namespace Go.Proofs.YtbjfihabkpianaaGreatDoor
section
open Go.RowKit
theorem setD_memC {ds : List InoD} {D E : InoD} (h : E ∈ setD ds D) : E = D ∨ E ∈ ds := by
  unfold setD at h
  obtain ⟨r, hr, rfl⟩ := List.mem_map.1 h
  unfold setR at hr
  split at hr
  · rename_i p hp
    rcases List.mem_or_eq_of_mem_set hr with h1 | h1
    · obtain ⟨E, hE, rfl⟩ := List.mem_map.1 h1
      exact .inr hE
    · exact .inl (by rw [h1]; rfl)
  · unfold putAt at hr
    rcases List.mem_append.1 hr with h1 | h1
    · obtain ⟨E, hE, rfl⟩ := List.mem_map.1 (List.mem_of_mem_take h1)
      exact .inr hE
    · rcases List.mem_cons.1 h1 with h1 | h1
      · exact .inl (by rw [h1]; rfl)
      · obtain ⟨E, hE, rfl⟩ := List.mem_map.1 (List.mem_of_mem_drop h1)
        exact .inr hE
theorem setD_lenC (ds : List InoD) (D : InoD) : (setD ds D).length ≤ ds.length + 1 := by
  unfold setD
  rw [List.length_map]
  unfold setR
  split
  · simp
  · rw [putAt_len _ _ _ (placeOf_le _ _)]
    simp
end

section
open Go.RowKit
theorem stat_form {ds : List InoD} {s : ByteArray} (h : (splitOf s.data.toList).isSome = false) : (statD ds s).2 = 1 := by
  have h0 : splitOf s.data.toList = none := by simpa using h
  unfold statD walkP
  rw [h0]
  rfl
theorem file_form {ds : List InoD} {s : ByteArray} (h : (splitOf s.data.toList).isSome = false) : (fileD ds s).2 = 1 := by
  have h1 := stat_form (ds := ds) h
  unfold fileD
  rw [h1, if_neg (by simp)]
  exact h1
theorem stat_in {ds : List InoD} {s : ByteArray} (h : (statD ds s).2 = 0) : (statD ds s).1 ∈ ds := by
  revert h
  unfold statD
  split
  · split
    · intro h; simp at h
    · rename_i D hD
      intro _
      exact (look_mem hD).1
  · rename_i hc
    intro h
    exact absurd h hc
end

section
open Go.RowKit
/-- The directory in which an entry may come to stand, and a code. -/
def dirFor (ds : List InoD) (s : ByteArray) : InoD × Int :=
  if (parentOf s.data.toList).2.2 = false then (inoZ.D, 1)
  else if (badK 1 ds (strB (parentOf s.data.toList).1)).2 ≠ 0 then (inoZ.D, (badK 1 ds (strB (parentOf s.data.toList).1)).2)
  else if entOf (strB (parentOf s.data.toList).2.1) (badK 1 ds (strB (parentOf s.data.toList).1)).1.ents ≠ 0 then (inoZ.D, 4)
  else ((badK 1 ds (strB (parentOf s.data.toList).1)).1, 0)
theorem badK_small {k : Int} {ds : List InoD} (h : ∀ D ∈ ds, D.ents.length ≤ 1048576) (s : ByteArray) : (badK k ds s).1.ents.length ≤ 1048576 := by
  have hz : inoZ.D.ents.length ≤ 1048576 := by simp [inoZ]
  unfold badK
  split
  · exact hz
  · unfold statD
    split
    · split
      · exact hz
      · rename_i D hD
        exact h D (look_mem hD).1
    · exact hz
set_option maxRecDepth 100000 in
set_option maxHeartbeats 4000000 in
theorem dirForI (a : Option Addr) (n cap : Nat) (nx : Int) (rs : List InoR) (s : ByteArray) (w : World) (ht : TR w a n rs) (hK : ∀ r ∈ rs, r.D.kind = 1 ∨ r.D.kind = 2) (hwf : ∀ r ∈ rs, (Lit.int .i64 r.D.ino).wf = true) (hwe : ∀ r ∈ rs, ∀ e ∈ r.D.ents, (Lit.int .i64 e.2).wf = true) (hs : s.size ≤ 4000000) :
    Calls Tryz.prog 212 #[.agg #[.slice a n cap, .int .i64 nx], .string s] w fun e w' => EStat w (dirFor (rs.map InoR.D) s).1 (dirFor (rs.map InoR.D) s).2 e w' := by
  have B0 : Below w.heap.size w ((w.alloc (.cells #[.slice a n cap, .int .i64 nx] 47)).alloc (.cells #[.int .i64 0, .int .i64 0, .int .i64 0, .slice none 0 0, .slice none 0 0, .slice none 0 0] 68)) := ((Below.refl _ w).alloc (Nat.le_refl _) _).alloc (by simp) _
  have zT : Blk ((w.alloc (.cells #[.slice a n cap, .int .i64 nx] 47)).alloc (.cells #[.int .i64 0, .int .i64 0, .int .i64 0, .slice none 0 0, .slice none 0 0, .slice none 0 0] 68)) w.heap.size 47 #[.slice a n cap, .int .i64 nx] := (Blk.new w _ _).alloc _
  have zR := Blk.new (w.alloc (.cells #[.slice a n cap, .int .i64 nx] 47)) 68 #[.int .i64 0, .int .i64 0, .int .i64 0, .slice none 0 0, .slice none 0 0, .slice none 0 0]
  simp only [World.size_alloc] at zR
  have hp : Hid (∀ (e : Ending) (w' : World) (E : InoD) (q : Int), dirFor (rs.map InoR.D) s = (E, q) → EStat w E q e w' → EStat w (dirFor (rs.map InoR.D) s).1 (dirFor (rs.map InoR.D) s).2 e w') := fun e w' E q h hh => by rw [h]; exact hh
  obtain ⟨pd, hpd⟩ : ∃ p, strB (parentOf s.data.toList).1 = p := ⟨_, rfl⟩
  obtain ⟨pn, hpn⟩ : ∃ p, strB (parentOf s.data.toList).2.1 = p := ⟨_, rfl⟩
  obtain ⟨D, c, hDc⟩ : ∃ D c, badK 1 (rs.map InoR.D) pd = (D, c) := ⟨_, _, rfl⟩
  have hdf : Hid (dirFor (rs.map InoR.D) s = if (parentOf s.data.toList).2.2 = false then (inoZ.D, 1) else if c ≠ 0 then (inoZ.D, c) else if entOf pn D.ents ≠ 0 then (inoZ.D, 4) else (D, 0)) := by
    show _ = _
    unfold dirFor
    rw [hpd, hpn, hDc]
  have hpz : pd.size ≤ 4000000 := by
    rw [← hpd, strB_size]
    have := (parent_small s.data.toList).1
    omega
  generalize EStat w (dirFor (rs.map InoR.D) s).1 (dirFor (rs.map InoR.D) s).2 = P at hp ⊢
  go_enter Tryz.func212, Tryz.ntmps212
  go_wp2_with fail
  obtain ⟨W0, hW0⟩ : ∃ W, ((w.alloc (.cells #[.slice a n cap, .int .i64 nx] 47)).alloc (.cells #[.int .i64 0, .int .i64 0, .int .i64 0, .slice none 0 0, .slice none 0 0, .slice none 0 0] 68)) = W := ⟨_, rfl⟩
  rw [hW0] at B0 zT zR ⊢
  clear hW0
  have hcP := parentI s W0 hs
  unfold PaPost at hcP
  rw [hpd, hpn] at hcP
  (with_reducible refine hcP.mono ?_)
  rintro e w1 ⟨b1, rfl⟩
  clear hcP hpd hpn
  have zr1 := zR.keep b1
  have hb1 := B0.trans (b1.mono B0.size)
  have hdf' := hdf.out
  cases hok : (parentOf s.data.toList).2.2 with
  | false =>
    rw [hok, if_pos rfl] at hdf'
    have HE : Hid _ := hdf'
    have HZ : Hid _ := zr1
    have HB : Hid _ := hb1
    obtain ⟨t0, t1, t2, t3, t4, t5⟩ := zr1.six
    have fz0 := zr1.frozen 0
    have fz1 := zr1.frozen 1
    have fz2 := zr1.frozen 2
    have fz3 := zr1.frozen 3
    have fz4 := zr1.frozen 4
    have fz5 := zr1.frozen 5
    clear hdf' hok hdf zr1 hb1 zT zR B0 b1
    go_wp2
    have zf := blk6 HZ.out (.int .i64 0) (.int .i64 0) (.int .i64 0) (.slice none 0 0) (.slice none 0 0) (.slice none 0 0)
    obtain ⟨dd0, dd1, dd2, dd3, dd4, dd5⟩ := zf.six
    refine bodyPost_ret (v := .tuple #[.agg #[.int .i64 0, .int .i64 0, .int .i64 0, .slice none 0 0, .slice none 0 0, .slice none 0 0], .iface 139 (.int .i64 1)]) (by simp [results, Tryz.f212, go_sem, dd0, dd1, dd2, dd3, dd4, dd5]) rfl ?_
    exact hp.out _ _ _ _ HE.out (eStat_zero rfl (at_stored HB.out (inoG_zero w1 (w.heap.size + 1 + 1) w1.heap.size) HZ.out (Nat.lt_succ_self _) _ _ _ _ _ _).2)
  | true =>
    rw [hok, if_neg (by simp)] at hdf'
    have zt := zT.keep b1
    have zt0 := zt.cell 0
    have zt1 := zt.cell 1
    simp at zt0 zt1
    have hcD := dirI a n cap nx rs pd w1 (ht.keep hb1) hK hwf hwe hpz
    rw [hDc] at hcD
    dsimp only at hcD
    have HDS : Hid (D.ents.length ≤ 1048576) := by
      have h1 := badK_small (k := 1) (ds := rs.map InoR.D) (fun E hE => by obtain ⟨r, hr, rfl⟩ := List.mem_map.1 hE; exact (ht.small r hr).ents) pd
      rw [hDc] at h1
      exact h1
    clear hDc hok hdf ht hK hwf hwe zT zR zt
    go_wp2_with fail
    (with_reducible refine hcD.mono ?_)
    rintro e w2 ⟨b1', d1, b2, d2, b3, d3, rfl, g2, bb2⟩
    obtain ⟨b1, hb1e⟩ : ∃ b, b1' = b := ⟨_, rfl⟩
    rw [hb1e] at g2 ⊢
    clear hb1e
    have zr := zr1.keep bb2
    have hb2 := hb1.trans (bb2.mono hb1.size)
    have hs1 : w.heap.size + 1 < w1.heap.size := zr1.lt
    have z3 := zr.alloc (.cells #[.int .i64 D.ino, .int .i64 D.kind, .int .i64 D.links, .slice b1 D.data.length d1, .slice b2 D.ents.length d2, .slice b3 D.attrs.length d3] 68)
    have hb3 := hb2.alloc hb2.size (.cells #[.int .i64 D.ino, .int .i64 D.kind, .int .i64 D.links, .slice b1 D.data.length d1, .slice b2 D.ents.length d2, .slice b3 D.attrs.length d3] 68)
    have zX := Blk.new w2 68 #[.int .i64 D.ino, .int .i64 D.kind, .int .i64 D.links, .slice b1 D.data.length d1, .slice b2 D.ents.length d2, .slice b3 D.attrs.length d3]
    have bA : Below w2.heap.size w2 (w2.alloc (.cells #[.int .i64 D.ino, .int .i64 D.kind, .int .i64 D.links, .slice b1 D.data.length d1, .slice b2 D.ents.length d2, .slice b3 D.attrs.length d3] 68)) := (Below.refl _ w2).alloc (Nat.le_refl _) _
    have g3 := (g2.keep (Nat.le_refl _) bA).wider (Nat.le_refl _) bA.size
    obtain ⟨W3, hW3⟩ : ∃ W, w2.alloc (.cells #[.int .i64 D.ino, .int .i64 D.kind, .int .i64 D.links, .slice b1 D.data.length d1, .slice b2 D.ents.length d2, .slice b3 D.attrs.length d3] 68) = W := ⟨_, rfl⟩
    rw [hW3] at z3 hb3 zX bA g3
    by_cases hc0 : c = 0
    · subst hc0
      rw [if_neg (by simp)] at hdf'
      rw [errV_zero]
      have hEs : D.ents.length ≤ 1048576 := HDS.out
      have hcE := entOfI D b1 b2 b3 d1 d2 d3 pn W3 hEs g3.rds
      unfold inoV at hcE
      obtain ⟨x0, x1, x2, x3, x4, x5⟩ := zX.six
      have HZX : Hid _ := zX
      generalize entOf pn D.ents = u at hcE hdf'
      clear hcD zt0 zt1 g2 zr bb2
      have HC : Hid _ := And.intro z3 (And.intro hb3 g3)
      by_cases hu : u = 0
      · subst hu
        rw [if_neg (by simp)] at hdf'
        have HE : Hid _ := hdf'
        clear hdf' z3 hb3 g3 zX bA zr1 hb1 hb2
        go_wp2_with fail
        (with_reducible refine hcE.mono ?_)
        rintro e w4 ⟨rfl, b4⟩
        have z4 := Blk.keep HC.out.1 b4
        have hb4 := HC.out.2.1.trans (b4.mono HC.out.2.1.size)
        have g4 := (HC.out.2.2.keep (Nat.le_refl _) b4).wider (Nat.le_refl _) b4.size
        obtain ⟨y0, y1, y2, y3, y4, y5⟩ := Blk.six (Blk.keep HZX.out b4)
        obtain ⟨t0, t1, t2, t3, t4, t5⟩ := z4.six
        have fz0 := z4.frozen 0
        have fz1 := z4.frozen 1
        have fz2 := z4.frozen 2
        have fz3 := z4.frozen 3
        have fz4 := z4.frozen 4
        have fz5 := z4.frozen 5
        have hf : Hid _ := at_stored hb4 g4 z4 hs1 (.int .i64 D.ino) (.int .i64 D.kind) (.int .i64 D.links) (.slice b1 D.data.length d1) (.slice b2 D.ents.length d2) (.slice b3 D.attrs.length d3)
        have HF : Hid _ := blk6 z4 (.int .i64 D.ino) (.int .i64 D.kind) (.int .i64 D.links) (.slice b1 D.data.length d1) (.slice b2 D.ents.length d2) (.slice b3 D.attrs.length d3)
        clear hcE z4 hb4 g4 b4 x0 x1 x2 x3 x4 x5
        go_wp2
        obtain ⟨dd0, dd1, dd2, dd3, dd4, dd5⟩ := Blk.six HF.out
        refine bodyPost_ret (v := .tuple #[.agg #[.int .i64 D.ino, .int .i64 D.kind, .int .i64 D.links, .slice b1 D.data.length d1, .slice b2 D.ents.length d2, .slice b3 D.attrs.length d3], .nilIface]) (by simp [results, Tryz.f212, go_sem, dd0, dd1, dd2, dd3, dd4, dd5]) rfl ?_
        exact hp.out _ _ _ _ HE.out ⟨b1, d1, b2, d2, b3, d3, rfl, hf.out.1, hf.out.2⟩
      · have hub : (u != 0) = true := by simpa using hu
        have hub' : (u == 0) = false := by simpa using hu
        rw [if_pos hu] at hdf'
        have HE : Hid _ := hdf'
        clear hdf' z3 hb3 g3 zX bA zr1 hb1 hb2 hu
        go_wp2_with fail
        (with_reducible refine hcE.mono ?_)
        rintro e w4 ⟨rfl, b4⟩
        have z4 := Blk.keep HC.out.1 b4
        have HB4 : Hid _ := HC.out.2.1.trans (b4.mono HC.out.2.1.size)
        have HZ4 : Hid _ := z4
        obtain ⟨t0, t1, t2, t3, t4, t5⟩ := z4.six
        have fz0 := z4.frozen 0
        have fz1 := z4.frozen 1
        have fz2 := z4.frozen 2
        have fz3 := z4.frozen 3
        have fz4 := z4.frozen 4
        have fz5 := z4.frozen 5
        clear hcE z4 b4 x0 x1 x2 x3 x4 x5
        go_wp2
        have zf := blk6 HZ4.out (.int .i64 0) (.int .i64 0) (.int .i64 0) (.slice none 0 0) (.slice none 0 0) (.slice none 0 0)
        obtain ⟨dd0, dd1, dd2, dd3, dd4, dd5⟩ := zf.six
        refine bodyPost_ret (v := .tuple #[.agg #[.int .i64 0, .int .i64 0, .int .i64 0, .slice none 0 0, .slice none 0 0, .slice none 0 0], .iface 139 (.int .i64 4)]) (by simp [results, Tryz.f212, go_sem, dd0, dd1, dd2, dd3, dd4, dd5]) rfl ?_
        exact hp.out _ _ _ _ HE.out (eStat_zero rfl (at_stored HB4.out (inoG_zero w4 (w.heap.size + 1 + 1) w4.heap.size) HZ4.out (Nat.lt_succ_self _) _ _ _ _ _ _).2)
    · rw [if_pos hc0] at hdf'
      have HE : Hid _ := hdf'
      have HC0 : Hid _ := errV_some hc0
      rw [errV_some hc0]
      have HZ3 : Hid _ := z3
      have HB3 : Hid _ := hb3
      obtain ⟨t0, t1, t2, t3, t4, t5⟩ := z3.six
      have fz0 := z3.frozen 0
      have fz1 := z3.frozen 1
      have fz2 := z3.frozen 2
      have fz3 := z3.frozen 3
      have fz4 := z3.frozen 4
      have fz5 := z3.frozen 5
      clear hdf' hc0 hcD zt0 zt1 g2 zr bb2 z3 hb3 g3 zX bA zr1 hb1 hb2
      go_wp2
      have zf := blk6 HZ3.out (.int .i64 0) (.int .i64 0) (.int .i64 0) (.slice none 0 0) (.slice none 0 0) (.slice none 0 0)
      obtain ⟨dd0, dd1, dd2, dd3, dd4, dd5⟩ := zf.six
      refine bodyPost_ret (v := .tuple #[.agg #[.int .i64 0, .int .i64 0, .int .i64 0, .slice none 0 0, .slice none 0 0, .slice none 0 0], .iface 139 (.int .i64 c)]) (by simp [results, Tryz.f212, go_sem, dd0, dd1, dd2, dd3, dd4, dd5]) rfl ?_
      exact hp.out _ _ _ _ HE.out (eStat_zero (by rw [HC0.out]) (at_stored HB3.out (inoG_zero W3 (w.heap.size + 1 + 1) W3.heap.size) HZ3.out (Nat.lt_succ_self _) _ _ _ _ _ _).2)
end

section
open Go.RowKit
theorem Src.own {w w' : World} {gc n cap : Nat} {a : Option Addr} {zs : List Int} {r : Option Nat} (h : Src w gc n cap a zs) (hg : w.grownBy w' r) (hr : ∀ g, r = some g → gc < g) : Src w' gc n cap a zs := by
  cases r with
  | none => exact h.keep ⟨hg.os, hg.tape, hg.output, hg.size, fun k hk => hg.block k hk (by simp)⟩
  | some g => exact h.other hg (hr g rfl)
theorem gr_own {w wr w' : World} {g0 : Nat} {r : Option Nat} (h : w.grownBy wr (some g0)) (hr : ∀ g, r = some g → w.heap.size ≤ g) (k : wr.grownBy w' r) : w.grownBy w' (some g0) := by
  refine ⟨k.os.trans h.os, k.tape.trans h.tape, k.output.trans h.output, Nat.le_trans h.size k.size, fun i hi hne => ?_⟩
  rw [k.block i (by have := h.size; omega) (by intro e; have := hr i e.symm; omega), h.block i hi hne]
/-- The state of a draw: the cursor gc; the answer's box, the inode's X, the names' N; its lists. -/
structure DI (w W : World) (gc sn scap : Nat) (sa : Option Addr) (zs : List Int) (X N : Nat) (nm : Array Value) (xs : Array Value) (v1 : Value) (dz : List Int) (v2 : Value) (es : List (ByteArray × Int)) (v3 : Value) (ats : List (ByteArray × ByteArray)) : Prop where
  src : Src W gc sn scap sa zs
  gr : w.grownBy W (some gc)
  hgc : gc < w.heap.size
  res : Blk W w.heap.size 68 #[.int .i64 0, .int .i64 0, .int .i64 0, .slice none 0 0, .slice none 0 0, .slice none 0 0]
  x : Blk W X 68 xs
  hX : w.heap.size < X
  nm : Blk W N 9 nm
  d : W.ownsRow w.heap.size 5 1 v1 dz.length (dz.map (Value.int .u8))
  e : W.ownsRow w.heap.size 154 2 v2 es.length (pv (eP es))
  t : W.ownsRow w.heap.size 106 2 v3 ats.length (pv (aP ats))
section
variable {w W W' : World} {gc sn scap : Nat} {sa : Option Addr} {zs : List Int} {X N : Nat} {nm xs : Array Value} {v1 : Value} {dz : List Int} {v2 : Value} {es : List (ByteArray × Int)} {v3 : Value} {ats : List (ByteArray × ByteArray)}
theorem DI.kp (h : DI w W gc sn scap sa zs X N nm xs v1 dz v2 es v3 ats) (k : KpT W W' [68, 5, 154, 106, 9]) (hs : Src W' gc sn scap sa zs) (hg : w.grownBy W' (some gc)) : DI w W' gc sn scap sa zs X N nm xs v1 dz v2 es v3 ats :=
  ⟨hs, hg, h.hgc, h.res.kp k (by decide), h.x.kp k (by decide), h.hX, h.nm.kp k (by decide), row_kp h.d k (by decide), row_kp h.e k (by decide), row_kp h.t k (by decide)⟩
theorem DI.cur (h : DI w W gc sn scap sa zs X N nm xs v1 dz v2 es v3 ats) (hs : Src W' gc sn scap sa zs) (hg : W.grownBy W' (some gc)) : DI w W' gc sn scap sa zs X N nm xs v1 dz v2 es v3 ats := by
  obtain ⟨i, hh, _, hb⟩ := h.src.cur
  exact h.kp (KpT.grown (t := 172) hg hb (by decide)) hs (h.gr.trans hg)
theorem DI.al (h : DI w W gc sn scap sa zs X N nm xs v1 dz v2 es v3 ats) (o : Obj) : DI w (W.alloc o) gc sn scap sa zs X N nm xs v1 dz v2 es v3 ats :=
  h.kp (KpT.below ((Below.refl _ W).alloc (Nat.le_refl _) o) _) (h.src.alloc o) (h.gr.trans (World.grownBy_alloc W o (some gc)))
theorem DI.setX (h : DI w W gc sn scap sa zs X N nm xs v1 dz v2 es v3 ats) (j : Nat) (v : Value) : DI w (W.setCell ⟨X, j, none⟩ v) gc sn scap sa zs X N nm (xs.setIfInBounds j v) v1 dz v2 es v3 ats := by
  have k : KpT W (W.setCell ⟨X, j, none⟩ v) [5, 154, 106, 9] := KpT.grown (gr_setC W X j v) h.x (by decide)
  have hx := h.hX
  have hc := h.hgc
  exact ⟨h.src.other (gr_setC W X j v) (by omega), gr_own h.gr (fun g hg => by simp at hg; omega) (gr_setC W X j v), h.hgc, h.res.other (Nat.ne_of_lt h.hX) j v, h.x.set j v, h.hX, h.nm.kp k (by decide), row_kp h.d k (by decide), row_kp h.e k (by decide), row_kp h.t k (by decide)⟩
theorem DI.appE (h : DI w W gc sn scap sa zs X N nm xs v1 dz v2 es v3 ats) (o : Obj) (hg : (W.alloc o).grownBy W' v2.ownBlock) (v2' : Value) (es' : List (ByteArray × Int)) (ho : W'.ownsRow w.heap.size 154 2 v2' es'.length (pv (eP es'))) : DI w W' gc sn scap sa zs X N nm xs v1 dz v2' es' v3 ats := by
  have ha := h.al o
  have hc := h.hgc
  have hv : ∀ g, v2.ownBlock = some g → w.heap.size ≤ g := fun g hk => (World.ownsRow.lt ha.e g hk).1
  have k : KpT (W.alloc o) W' [68, 5, 106, 9] := KpT.row hg ha.e (by decide)
  exact ⟨ha.src.own hg (fun g hk => by have := hv g hk; omega), gr_own ha.gr hv hg, h.hgc, ha.res.kp k (by decide), ha.x.kp k (by decide), h.hX, ha.nm.kp k (by decide), row_kp ha.d k (by decide), ho, row_kp ha.t k (by decide)⟩
theorem DI.appA (h : DI w W gc sn scap sa zs X N nm xs v1 dz v2 es v3 ats) (o : Obj) (hg : (W.alloc o).grownBy W' v3.ownBlock) (v3' : Value) (ats' : List (ByteArray × ByteArray)) (ho : W'.ownsRow w.heap.size 106 2 v3' ats'.length (pv (aP ats'))) : DI w W' gc sn scap sa zs X N nm xs v1 dz v2 es v3' ats' := by
  have ha := h.al o
  have hc := h.hgc
  have hv : ∀ g, v3.ownBlock = some g → w.heap.size ≤ g := fun g hk => (World.ownsRow.lt ha.t g hk).1
  have k : KpT (W.alloc o) W' [68, 5, 154, 9] := KpT.row hg ha.t (by decide)
  exact ⟨ha.src.own hg (fun g hk => by have := hv g hk; omega), gr_own ha.gr hv hg, h.hgc, ha.res.kp k (by decide), ha.x.kp k (by decide), h.hX, ha.nm.kp k (by decide), row_kp ha.d k (by decide), row_kp ha.e k (by decide), ho⟩
end
/-! ### when what was drawn is right -/
end
end Go.Proofs.YtbjfihabkpianaaGreatDoor
