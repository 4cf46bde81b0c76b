/-
  Joined: TruncI, WithoutI, BinP, InsP, InsR, PutNm.
-/
import Derived.Test.YtbjfihabkpianaaGreatDoorJ27E
import Derived.Test.YtbjfihabkpianaaGreatDoorSetIE
import Derived.Lib.Overlaps
namespace Go.Proofs.YtbjfihabkpianaaGreatDoor
section
open Go.RowKit
theorem eMeth_no {w w' : World} {nx : Int} {ds : List InoD} {c : Int} (hc : c ≠ 0) {ra : Option Addr} {rn rc : Nat} {rx : Int} (hb : Below w.heap.size w w') : EMeth w nx ds c (.returned (.tuple #[.agg #[.slice ra rn rc, .int .i64 rx], .iface 139 (.int .i64 c)])) w' :=
  ⟨ra, rn, rc, rx, by rw [errV_some hc], hb, fun h => absurd h hc⟩
theorem eMeth_yes {w W V : World} {nx : Int} {ds : List InoD} {a : Option Addr} {n cc : Nat} {R : Nat} {u0 u1 : Value} (h : TabAt W nx ds (.agg #[.slice a n cc, .int .i64 nx]) V) (hb : Below w.heap.size w W) (hR : w.heap.size ≤ R) (hz : Blk W R 47 #[u0, u1]) : EMeth w nx ds 0 (.returned (.tuple #[.agg #[.slice a n cc, .int .i64 nx], .nilIface])) ((V.setCell ⟨R, 0, none⟩ (.slice a n cc)).setCell ⟨R, 1, none⟩ (.int .i64 nx)) := by
  obtain ⟨a', c', js, hv, hq, hbV⟩ := h
  have h1 := hq.boxed (hb.trans (hbV.mono hb.size)) hR hz.lt (.slice a n cc) (.int .i64 nx)
  exact ⟨a, n, cc, nx, rfl, h1.2, fun _ => ⟨a', c', js, hv, h1.1, h1.2⟩⟩
/-- The inode whose bytes were put anew. -/
theorem inoG_data {W V : World} {B T : Nat} {D : InoD} {v1 v2 v3 v' : Value} {m : Nat} {zs : List Int} (g : InoG W B T D v1 v2 v3) (hk : KpT W V [154, 106]) (ho : OwnV 0 V v' m zs) (hb : Byt zs) : InoG V 0 V.heap.size { D with data := zs } v' v2 v3 := by
  have h2 : OwnQ 154 V v2 D.ents.length (eP D.ents) := row_kp g.ents hk (by decide)
  have h3 : OwnQ 106 V v3 D.attrs.length (aP D.attrs) := row_kp g.attrs hk (by decide)
  have hl := ho.len
  subst hl
  refine ⟨ho, hb, h2, h3, fun m hm => ⟨Nat.zero_le _, ?_⟩⟩
  rcases hm with hm | hm | hm
  · exact (World.ownsRow.lt ho m hm).2
  · exact (World.ownsRow.lt h2 m hm).2
  · exact (World.ownsRow.lt h3 m hm).2
theorem KpT.tr {W W1 W2 : World} {ts : List TypeId} (h : KpT W W1 ts) (k : KpT W1 W2 ts) : KpT W W2 ts := fun B cur t fr hB hm => by
  have h1 := h B cur t fr hB hm
  exact (k B cur t fr (h1.trans hB) hm).trans h1
theorem tree_data {nx : Int} {ds : List InoD} (h : treeD nx ds = true) : ∀ D ∈ ds, D.data.length ≤ 100 := fun D hD => (ok_parts ((tabD_ok (treeD_parts h).1).2.2.2.2.1 D hD).1).2.2.2.2.1
theorem byt_size {d : List Int} (h : Byt d) (k : Nat) : Byt (sizeTo d k) := by
  unfold sizeTo
  intro z hz
  have h1 := List.mem_of_mem_take hz
  rcases List.mem_append.1 h1 with h1 | h1
  · exact h z h1
  · have := (List.mem_replicate.1 h1).2
    subst this
    decide
theorem badK_mem {kd : Int} {ds : List InoD} {s : ByteArray} (h : (badK kd ds s).2 = 0) : (badK kd ds s).1 ∈ ds := by
  unfold badK at h ⊢
  split at h
  · simp at h
  · rename_i hc
    rw [if_neg hc]
    revert h
    unfold statD
    split
    · split
      · intro h; simp at h
      · rename_i D hD
        intro _
        exact (look_mem hD).1
    · rename_i hc
      intro h
      exact absurd h hc
end

section
open Go.RowKit
theorem dropEnt_cut (es : List (ByteArray × Int)) (s : ByteArray) : dropEnt es s = cutE es s := by
  unfold dropEnt cutE
  refine List.filter_congr fun e _ => ?_
  by_cases h : e.1 = s
  · rw [h]
    simp
  · rw [str_ne h]
    simp [h]
set_option maxRecDepth 100000 in
set_option maxHeartbeats 2000000 in
theorem dropNEnt (v : Value) (n : Nat) (es : List (ByteArray × Int)) (s : ByteArray) (w : World) (hs : n ≤ 1000000) (ho : OwnQ 154 w v n (eP es)) :
    Calls Tryz.prog 253 #[v, .string s, .func (.func 223) #[] #[]] w fun e w' => ∃ v', e = .returned v' ∧ OwnQ 154 w' v' (dropEnt es s).length (eP (dropEnt es s)) ∧ w.grownBy w' v.ownBlock := by
  have hmf : ∀ (fn : Fn) (first cap : Array Value) (w : World), (Instr.makeFunc fn first cap).run Tryz.prog w = .ok (.func fn first cap) w := fun _ _ _ _ => rfl
  have b0 : Below w.heap.size w ((w.alloc (.cells #[.string s] 9)).alloc (.cells #[.func (.func 223) #[] #[]] 253)) := ((Below.refl _ w).alloc (Nat.le_refl _) _).alloc (by simp) _
  have zS := (Blk.new w 9 #[.string s]).alloc (.cells #[.func (.func 223) #[] #[]] 253)
  have zF := Blk.new (w.alloc (.cells #[.string s] 9)) 253 #[.func (.func 223) #[] #[]]
  simp only [World.size_alloc] at zF
  have hcd := deleteEnt v n es s (w.heap.size + 1) w.heap.size _ hs (row_kp ho (KpT.below b0 [154]) (by simp)) ⟨zF, zS⟩
  have hg0 : Hid (w.grownBy ((w.alloc (.cells #[.string s] 9)).alloc (.cells #[.func (.func 223) #[] #[]] 253)) v.ownBlock) := Below.gr b0 _
  clear zS zF b0 ho
  go_enter Tryz.func253, Tryz.ntmps253
  go_wp2_with fail
  (with_reducible refine hcd.mono ?_)
  rintro e w1 ⟨v', rfl, o1, g1⟩
  have hend : Hid (OwnQ 154 w1 v' (dropEnt es s).length (eP (dropEnt es s)) ∧ w.grownBy w1 v.ownBlock) := ⟨o1, gr_tr hg0.out g1⟩
  clear hcd o1 g1 hg0
  go_wp2
  go_ret
  exact ⟨_, rfl, hend.out⟩
/-- The inode whose entries were put anew. -/
theorem inoG_ents {W V : World} {B T : Nat} {D : InoD} {v1 v2 v3 v' : Value} {m : Nat} {es : List (ByteArray × Int)} (g : InoG W B T D v1 v2 v3) (hk : KpT W V [5, 106]) (ho : OwnQ 154 V v' m (eP es)) : InoG V 0 V.heap.size { D with ents := es } v1 v' v3 := by
  have h1 : OwnV 0 V v1 D.data.length D.data := row_kp g.data hk (by decide)
  have h3 : OwnQ 106 V v3 D.attrs.length (aP D.attrs) := row_kp g.attrs hk (by decide)
  have hl : es.length = m := by have := ho.1; rw [pv_length, eP_length] at this; omega
  subst hl
  refine ⟨h1, g.byt, ho, h3, fun m hm => ⟨Nat.zero_le _, ?_⟩⟩
  rcases hm with hm | hm | hm
  · exact (World.ownsRow.lt h1 m hm).2
  · exact (World.ownsRow.lt ho m hm).2
  · exact (World.ownsRow.lt h3 m hm).2
theorem Blk.rowQ {W V : World} {b : Nat} {t e : TypeId} {vs : Array Value} {v : Value} {n : Nat} {ps : List VP} (h : Blk W b t vs) (ht : e ∉ [t]) (ho : OwnQ e W v n ps) (hg : W.grownBy V v.ownBlock) : Blk V b t vs := h.kp (KpT.row hg ho ht) (by simp)
set_option maxRecDepth 100000 in
set_option maxHeartbeats 4000000 in
theorem withoutI (a : Option Addr) (n cap : Nat) (nx : Int) (rs : List InoR) (s : ByteArray) (w : World) (ht : TR w a n rs) (hK : ∀ r ∈ rs, r.D.kind = 1 ∨ r.D.kind = 2) (hwf : ∀ r ∈ rs, (Lit.int .i64 r.D.ino).wf = true) (hwe : ∀ r ∈ rs, ∀ e ∈ r.D.ents, (Lit.int .i64 e.2).wf = true) (hE : ∀ r ∈ rs, r.D.ents.length ≤ 100) (hs : s.size ≤ 4000000) (hps : (strB (parentOf s.data.toList).1).size ≤ 4000000) (D : InoD) (hD : badK 1 (rs.map InoR.D) (strB (parentOf s.data.toList).1) = (D, 0)) :
    Calls Tryz.prog 209 #[.agg #[.slice a n cap, .int .i64 nx], .string s] w fun e w' => ∃ v, e = .returned v ∧ TabAt w nx (setD (rs.map InoR.D) { D with ents := cutE D.ents (strB (parentOf s.data.toList).2.1) }) v w' := by
  have B0 : Below w.heap.size w ((w.alloc (.cells #[.slice a n cap, .int .i64 nx] 47)).alloc (.cells #[.slice none 0 0, .int .i64 0] 47)) := ((Below.refl _ w).alloc (Nat.le_refl _) _).alloc (by simp) _
  have zT := (Blk.new w 47 #[.slice a n cap, .int .i64 nx]).alloc (.cells #[.slice none 0 0, .int .i64 0] 47)
  have zR := Blk.new (w.alloc (.cells #[.slice a n cap, .int .i64 nx] 47)) 47 #[.slice none 0 0, .int .i64 0]
  simp only [World.size_alloc] at zR
  have hcP := fun W => parentI s W hs
  unfold PaPost at hcP
  obtain ⟨pa, hpa⟩ : ∃ p, strB (parentOf s.data.toList).1 = p := ⟨_, rfl⟩
  obtain ⟨nm, hnm⟩ : ∃ p, strB (parentOf s.data.toList).2.1 = p := ⟨_, rfl⟩
  obtain ⟨pb, hpb⟩ : ∃ p, (parentOf s.data.toList).2.2 = p := ⟨_, rfl⟩
  rw [hpa] at hcP hD hps
  rw [hnm] at hcP ⊢
  rw [hpb] at hcP
  have hcF := fun (W : World) (hW : Below w.heap.size w W) => dirI a n cap nx rs pa W (ht.keep hW) hK hwf hwe hps
  have HMEM : Hid _ := @badK_mem 1 (rs.map InoR.D) pa
  rw [hD] at hcF HMEM
  dsimp only at hcF HMEM
  have HDm : Hid (D ∈ rs.map InoR.D) := HMEM.out rfl
  obtain ⟨ds, hds⟩ : ∃ ds, rs.map InoR.D = ds := ⟨_, rfl⟩
  rw [hds]
  have HDS : Hid _ := hds
  obtain ⟨TT, hTT⟩ : ∃ c, setD ds { D with ents := cutE D.ents nm } = c := ⟨_, rfl⟩
  rw [hTT]
  have HTT : Hid _ := hTT
  have HSM : Hid _ := ht.small
  have HLEN : Hid _ := ht.len
  have HNN : Hid _ := ht.n
  have HRD : Hid _ := ht.rd
  have HWF : Hid _ := hwf
  have HEE : Hid _ := hE
  clear hpa hnm hpb hD ht hK hwf hwe hE hds hTT HMEM
  go_enter Tryz.func209, Tryz.ntmps209
  go_wp2_with fail
  obtain ⟨Wz, hWz⟩ : ∃ W, ((w.alloc (.cells #[.slice a n cap, .int .i64 nx] 47)).alloc (.cells #[.slice none 0 0, .int .i64 0] 47)) = W := ⟨_, rfl⟩
  rw [hWz] at B0 zT zR ⊢
  clear hWz
  (with_reducible refine (hcP Wz).mono ?_)
  rintro e w1 ⟨b1, rfl⟩
  have zt1 := zT.keep b1
  have zr1 := zR.keep b1
  have hb1 := B0.trans (b1.mono B0.size)
  have t0 := zt1.cell 0
  have t1 := zt1.cell 1
  simp at t0 t1
  clear zT zR B0 b1 hcP
  go_wp2_with fail
  (with_reducible refine (hcF w1 hb1).mono ?_)
  rintro e w2 ⟨b1, d1, b2, d2, b3, d3, rfl, g2, bb2⟩
  rw [errV_zero]
  have zt := (zt1.keep bb2).alloc (.cells #[.int .i64 D.ino, .int .i64 D.kind, .int .i64 D.links, .slice b1 D.data.length d1, .slice b2 D.ents.length d2, .slice b3 D.attrs.length d3] 68)
  have zr := (zr1.keep bb2).alloc (.cells #[.int .i64 D.ino, .int .i64 D.kind, .int .i64 D.links, .slice b1 D.data.length d1, .slice b2 D.ents.length d2, .slice b3 D.attrs.length d3] 68)
  have hb2 := hb1.trans (bb2.mono hb1.size)
  have hb3 := hb2.alloc hb2.size (.cells #[.int .i64 D.ino, .int .i64 D.kind, .int .i64 D.links, .slice b1 D.data.length d1, .slice b2 D.ents.length d2, .slice b3 D.attrs.length d3] 68)
  have hbA : Below w2.heap.size w2 (w2.alloc (.cells #[.int .i64 D.ino, .int .i64 D.kind, .int .i64 D.links, .slice b1 D.data.length d1, .slice b2 D.ents.length d2, .slice b3 D.attrs.length d3] 68)) := (Below.refl _ w2).alloc (Nat.le_refl _) _
  have zX := Blk.new w2 68 #[.int .i64 D.ino, .int .i64 D.kind, .int .i64 D.links, .slice b1 D.data.length d1, .slice b2 D.ents.length d2, .slice b3 D.attrs.length d3]
  have g3 := g2.keep (Nat.le_refl _) hbA
  have hsR : w.heap.size + 1 < w2.heap.size := (zr1.keep bb2).lt
  have HBZ : Hid (w.heap.size ≤ w1.heap.size) := hb1.size
  obtain ⟨X, hX⟩ : ∃ X, w2.heap.size = X := ⟨_, rfl⟩
  obtain ⟨W3, hW3⟩ : ∃ W, w2.alloc (.cells #[.int .i64 D.ino, .int .i64 D.kind, .int .i64 D.links, .slice b1 D.data.length d1, .slice b2 D.ents.length d2, .slice b3 D.attrs.length d3] 68) = W := ⟨_, rfl⟩
  rw [hW3] at zt zr hb3 zX g3
  rw [hX] at zX g3 hsR
  have HZT : Hid _ := zt
  have HZR : Hid _ := zr
  have HB3 : Hid _ := hb3
  have HG3 : Hid _ := g3
  have HZX : Hid _ := zX
  obtain ⟨x0, x1, x2, x3, x4, x5⟩ := zX.six
  have fx := zX.frozen 4
  obtain ⟨rD, hrD, hrDD⟩ : ∃ r ∈ rs, r.D = D := by
    have := HDm.out
    obtain ⟨r, hr, h⟩ := List.mem_map.1 this
    exact ⟨r, hr, h⟩
  have HSD : Hid (InoSmall D) := hrDD ▸ HSM.out rD hrD
  have HWD : Hid ((Lit.int .i64 D.ino).wf = true) := hrDD ▸ HWF.out rD hrD
  have hcZ := dropNEnt (.slice b2 D.ents.length d2) D.ents.length D.ents nm W3 (by have := hrDD ▸ HEE.out rD hrD; omega) HG3.out.ents
  rw [dropEnt_cut] at hcZ
  clear hcF zt1 zr1 g2 bb2 hb2 hbA hb1 zt zr hb3 g3 zX hrD hrDD t0 t1
  go_wp2_with fail
  (with_reducible refine hcZ.mono ?_)
  rintro e w4 ⟨v4, rfl, o4, g4⟩
  obtain ⟨a4, c4, rfl⟩ := ownQ_shape o4
  have zt4 := Blk.rowQ HZT.out (by decide) HG3.out.ents g4
  have zr4 := Blk.rowQ HZR.out (by decide) HG3.out.ents g4
  have zX4 := Blk.rowQ HZX.out (by decide) HG3.out.ents g4
  have hk4 : KpT W3 w4 [5, 106] := KpT.row g4 HG3.out.ents (by decide)
  have hb4 : Below w.heap.size w w4 := HB3.out.grown g4 HB3.out.size (fun m hm => by have h1 := HG3.out.within m (.inr (.inl hm)); have h2 := HBZ.out; omega)
  obtain ⟨es', hes'⟩ : ∃ l, cutE D.ents nm = l := ⟨_, rfl⟩
  have hel : es'.length ≤ D.ents.length := by rw [← hes']; exact List.length_filter_le _ _
  have hsx : InoSmall { D with ents := es' } := by rw [← hes']; exact cutE_small HSD.out nm
  rw [hes'] at o4 HTT ⊢
  obtain ⟨m4, hm4⟩ : ∃ k, es'.length = k := ⟨_, rfl⟩
  rw [hm4] at o4 ⊢
  have zX5 := zX4.set 4 (.slice a4 m4 c4)
  have zt5 := zt4.other (B' := X) (by omega) 4 (.slice a4 m4 c4)
  have zr5 := zr4.other (B' := X) (by omega) 4 (.slice a4 m4 c4)
  have hk5 : KpT w4 (w4.setCell ⟨X, 4, none⟩ (.slice a4 m4 c4)) [5, 106, 154] := KpT.grown (gr_setC w4 X 4 _) zX4 (by decide)
  have o5 : OwnQ 154 (w4.setCell ⟨X, 4, none⟩ (.slice a4 m4 c4)) (.slice a4 m4 c4) m4 (eP es') := row_kp o4 hk5 (by decide)
  have g5 := inoG_ents HG3.out (hk4.tr (fun B cur t fr h1 h2 => hk5 B cur t fr h1 (List.mem_append_left [154] h2))) o5
  have hb5 := hb4.setCell (p := ⟨X, 4, none⟩) (show w.heap.size ≤ X by omega) (.slice a4 m4 c4)
  have fx4 := zX4.frozen 4
  have xx4 := zX4.cell 4
  simp at xx4
  obtain ⟨W5, hW5⟩ : ∃ W, w4.setCell ⟨X, 4, none⟩ (.slice a4 m4 c4) = W := ⟨_, rfl⟩
  rw [hW5] at zX5 zt5 zr5 g5 hb5
  have hrd5 : InoRd W5 { D with ents := es' } b1 a4 b3 := InoG.rds (B := 0) (T := W5.heap.size) (c1 := d1) (c2 := c4) (c3 := d3) (by show InoG W5 0 W5.heap.size _ (.slice b1 D.data.length d1) (.slice a4 es'.length c4) (.slice b3 D.attrs.length d3); rw [hm4]; exact g5)
  have hcI := setI a n cap nx rs { D with ents := es' } b1 a4 b3 d1 c4 d3 W5 HLEN.out HNN.out HWD.out HWF.out HSM.out hsx (RdI.keep HRD.out hb5) hrd5
  dsimp only at hcI
  rw [hm4] at hcI
  obtain ⟨x0, x1, x2, x3, x4, x5⟩ := zX5.six
  have t0 := zt5.cell 0
  have t1 := zt5.cell 1
  simp at t0 t1
  have HZR5 : Hid _ := zr5
  have HB5 : Hid _ := hb5
  have HHM : Hid _ := hm4
  clear hcZ o4 g4 hk4 hk5 o5 g5 hb4 hb5 hrd5 hsx zt4 zr4 zt5 zr5 zX5 hel hes' hm4
  go_wp2_with fail
  (with_reducible refine hcI.mono ?_)
  intro e w6 hp6
  obtain ⟨v6, rfl, ht6⟩ := hp6.tab
  rw [setD_eq, HDS.out] at ht6
  dsimp only at ht6
  rw [HTT.out] at ht6
  have ht6' := ht6
  obtain ⟨ra, rc, js, rfl, hq6, b6⟩ := ht6'
  obtain ⟨rn, hrn⟩ : ∃ rn, js.length = rn := ⟨_, rfl⟩
  rw [hrn] at hq6 ⊢
  have zr6 := Blk.keep HZR5.out b6
  have HFIN : Hid (TabAt w nx TT (.agg #[.slice ra rn rc, .int .i64 nx]) ((w6.setCell ⟨w.heap.size + 1, 0, none⟩ (.slice ra rn rc)).setCell ⟨w.heap.size + 1, 1, none⟩ (.int .i64 nx))) := by
    have h1 := hq6.boxed (HB5.out.trans (b6.mono HB5.out.size)) (show w.heap.size ≤ w.heap.size + 1 by omega) (Blk.lt HZR5.out) (.slice ra rn rc) (.int .i64 nx)
    refine ⟨ra, rc, js, by rw [hrn], ?_, h1.2⟩
    rw [hrn]
    exact h1.1
  have r0 := zr6.cell 0
  have r1 := zr6.cell 1
  have f0 := zr6.frozen 0
  have f1 := zr6.frozen 1
  simp at r0 r1
  have zf := blk2 zr6 (.slice ra rn rc) (.int .i64 nx)
  have dd0 := zf.cell 0
  have dd1 := zf.cell 1
  simp at dd0 dd1
  clear hcI hp6 ht6 zf zr6 b6 x0 x1 x2 x3 x4 x5 t0 t1 hrn hq6
  go_wp2
  refine bodyPost_ret (v := .agg #[.slice ra rn rc, .int .i64 nx]) (by simp [results, Tryz.f209, go_sem, dd0, dd1]) rfl ?_
  exact ⟨_, rfl, HFIN.out⟩
end

section
open Go.RowKit
def cmpB (x y : ByteArray) : Int := if Op.bytesLess x.toList y.toList = true then -1 else if (x.toList == y.toList) = true then 0 else 1
theorem isNaNS (x : ByteArray) (w : World) : Calls Tryz.prog 298 #[.string x] w fun e w' => e = .returned (.bool false) ∧ w' = w := by
  go_enter Tryz.func298, Tryz.ntmps298
  go_wp2
  go_ret
  exact ⟨rfl, rfl⟩
set_option maxHeartbeats 1000000 in
theorem cmpI (x y : ByteArray) (w : World) : Calls Tryz.prog 261 #[.string x, .string y] w fun e w' => e = .returned (.int .i64 (cmpB x y)) ∧ w' = w := by
  have h1 := isNaNS x w
  have h2 := isNaNS y w
  obtain ⟨R, hR⟩ : ∃ R, cmpB x y = R := ⟨_, rfl⟩
  rw [hR]
  unfold cmpB at hR
  go_enter Tryz.func261, Tryz.ntmps261
  go_wp2_with fail
  (with_reducible refine h1.mono ?_)
  rintro e w1 ⟨rfl, hw1⟩
  obtain rfl := hw1
  go_wp2_with fail
  (with_reducible refine h2.mono ?_)
  rintro e w2 ⟨rfl, hw2⟩
  obtain rfl := hw2
  cases hl : Op.bytesLess x.toList y.toList with
  | true =>
    rw [if_pos hl] at hR
    subst hR
    go_wp2
    go_ret
    exact ⟨rfl, rfl⟩
  | false =>
    rw [if_neg (by rw [hl]; decide)] at hR
    cases hg : (x.toList == y.toList) with
    | true =>
      rw [if_pos hg] at hR
      subst hR
      go_wp2
      go_ret
      exact ⟨rfl, rfl⟩
    | false =>
      rw [if_neg (by rw [hg]; decide)] at hR
      subst hR
      go_wp2
      go_ret
      exact ⟨rfl, rfl⟩
theorem cmpB_neg (x y : ByteArray) : cmpB x y < 0 ↔ Op.bytesLess x.toList y.toList = true := by
  unfold cmpB
  split
  · rename_i h; simp [h]
  · rename_i h
    split <;> simp [h]
set_option maxRecDepth 100000 in
set_option maxHeartbeats 2000000 in
theorem cmpEnt (z : ByteArray) (u : Int) (s : ByteArray) (FB : Nat) (w : World) (hv : Blk w FB 253 #[.func (.func 223) #[] #[]]) :
    Calls Tryz.prog 295 #[.agg #[.string z, .int .i64 u], .string s, .pointer (some ⟨FB, 0, none⟩)] w fun e w' => e = .returned (.int .i64 (cmpB z s)) ∧ Below w.heap.size w w' := by
  have b0 : Below w.heap.size w (w.alloc (.cells #[.string z, .int .i64 u] 154)) := (Below.refl _ w).alloc (Nat.le_refl _) _
  have hv0 := hv.keep b0
  have z0 := Blk.new w 154 #[.string z, .int .i64 u]
  have hn := entName_any z u
  have hc := cmpI z s
  have k0 := hv0.cell 0
  have k1 := z0.cell 0
  have k2 := z0.cell 1
  simp at k0 k1 k2
  have HB0 : Hid _ := b0
  have HZL : Hid _ := hv0
  clear hv0 z0 b0 hv
  go_enter Tryz.func295, Tryz.ntmps295
  go_wp2_with fail
  obtain ⟨W, hW⟩ : ∃ W, w.alloc (.cells #[.string z, .int .i64 u] 154) = W := ⟨_, rfl⟩
  rw [hW] at HB0 k0 ⊢
  clear hW HZL
  (with_reducible refine (hn W).mono ?_)
  rintro e w1 ⟨rfl, b1⟩
  have hend : Hid _ := HB0.out.trans (b1.mono HB0.out.size)
  clear k0 k1 k2 b1
  go_wp2_with fail
  (with_reducible refine (hc w1).mono ?_)
  rintro e w2 ⟨rfl, hw2⟩
  obtain rfl := hw2
  go_wp2
  go_ret
  exact ⟨rfl, hend.out⟩
/-- The first place that is not below the name. -/
def SpotEnt (es : List (ByteArray × Int)) (s : ByteArray) (k : Nat) : Prop := k ≤ es.length ∧ (∀ (j : Nat) (hj : j < es.length), j < k → Op.bytesLess es[j].1.toList s.toList = true) ∧ (∀ (j : Nat) (hj : j < es.length), k ≤ j → Op.bytesLess es[j].1.toList s.toList = false)
set_option maxRecDepth 100000 in
set_option maxHeartbeats 4000000 in
theorem searchEnt (a : Option Addr) (n cap : Nat) (es : List (ByteArray × Int)) (s : ByteArray) (FB : Nat) (w : World) (hn : es.length = n) (hs : n ≤ 4000000) (hr : RdP w a (eP es)) (hv : Blk w FB 253 #[.func (.func 223) #[] #[]])
    (hm : ∀ (i j : Nat) (hi : i < es.length) (hj : j < es.length), i ≤ j → Op.bytesLess es[j].1.toList s.toList = true → Op.bytesLess es[i].1.toList s.toList = true) :
    Calls Tryz.prog 294 #[.slice a n cap, .string s, .func (.func 295) #[] #[.pointer (some ⟨FB, 0, none⟩)]] w fun e w' => (∃ (k : Nat) (b : Bool), e = .returned (.tuple #[.int .i64 k, .bool b]) ∧ SpotEnt es s k) ∧ Below w.heap.size w w' := by
  have HR : Hid _ := hr
  have HV : Hid _ := hv
  have HN : Hid (es.length = n) := hn
  have HM : Hid _ := hm
  have HCC : Hid (∀ (k : Nat) (W : World), k < n → Below w.heap.size w W → ∃ (eb eo : Nat) (z : ByteArray) (u : Int), a = some ⟨eb, eo, none⟩ ∧ (∃ h : k < es.length, es[k].1 = z) ∧ W.cell? ⟨eb, eo + k * 2, none⟩ = some (.string z) ∧ W.cell? ⟨eb, eo + k * 2 + 1, none⟩ = some (.int .i64 u) ∧ Calls Tryz.prog 295 #[.agg #[.string z, .int .i64 u], .string s, .pointer (some ⟨FB, 0, none⟩)] W fun e w' => e = .returned (.int .i64 (cmpB z s)) ∧ Below W.heap.size W w') := fun k W hk hB => by
    have hkl : k < es.length := by rw [HN.out]; exact hk
    obtain ⟨eb, eo, rfl, helt, hec⟩ := RdP.lt (RdP.keep HR.out hB) (by intro h; have := congrArg List.length h; rw [eP_length] at this; simp at this; rw [this] at hkl; simp at hkl)
    have hx := hec k (by rw [eP_length]; exact hkl)
    rw [eP_at es k hkl] at hx
    exact ⟨eb, eo, es[k].1, es[k].2, rfl, ⟨hkl, rfl⟩, hx.1, hx.2, cmpEnt _ _ s FB W (Blk.keep HV.out (hB.mono (Nat.le_refl _)))⟩
  clear hr hv hn hm
  go_enter Tryz.func294, Tryz.ntmps294
  go_wp2
  go_loopw [9, 10] (fun i j wr => ∃ (p q : Nat), p ≤ q ∧ q ≤ n ∧ i = .int .i64 p ∧ j = .int .i64 q ∧ Hid (∀ (k : Nat) (hk : k < es.length), k < p → Op.bytesLess es[k].1.toList s.toList = true) ∧ Hid (∀ (k : Nat) (hk : k < es.length), q ≤ k → Op.bytesLess es[k].1.toList s.toList = false) ∧ Hid (Below w.heap.size w wr)) (fun i j _ => (intOf j).toNat - (intOf i).toNat)
  case atStart => exact ⟨0, n, Nat.zero_le _, Nat.le_refl _, rfl, rfl, fun k _ hk => by omega, fun k hk hq => by rw [HN.out] at hk; omega, Below.refl _ _⟩
  case round =>
    obtain ⟨p, q, hpq, hqn, rfl, rfl, hlo, hhi, hB⟩ := hrel
    by_cases hlt : p < q
    · have hlti : (p : Int) < (q : Int) := by omega
      obtain ⟨h, hh⟩ : ∃ h, (p + q) / 2 = h := ⟨_, rfl⟩
      have hh1 : p ≤ h ∧ h < q := by omega
      have hw1 : IntKind.i64.wrap ((p : Int) + (q : Int)) = (p : Int) + (q : Int) := wrap_small _ (by omega) (by omega)
      have hw2 : ((p : Int) + (q : Int)) / 2 = (h : Int) := by omega
      have hh0 : (0 : Int) ≤ (h : Int) := by omega
      have hhn : (h : Int) < (n : Int) := by omega
      obtain ⟨eb, eo, z, u, rfl, ⟨hkl, hz⟩, x1, x2, hcc⟩ := HCC.out h wr (by omega) hB.out
      have hz' : Hid _ := hz
      have HCN : Hid _ := cmpB_neg z s
      obtain ⟨cv, hcv⟩ : ∃ c, cmpB z s = c := ⟨_, rfl⟩
      rw [hcv] at hcc HCN
      clear hcv hz hh
      by_cases hc : cv < 0
      · have hnx : Hid (∀ (k : Nat) (hk : k < es.length), k < h + 1 → Op.bytesLess es[k].1.toList s.toList = true) := fun k hk hkh => HM.out k h hk hkl (by omega) (by rw [hz'.out]; exact HCN.out.1 hc)
        clear hlo HCN hz'
        go_wp2_with fail
        (with_reducible refine hcc.mono ?_)
        rintro e w1 ⟨rfl, b1⟩
        go_wp2
        go_roundw
        case rel => exact ⟨h + 1, q, by omega, hqn, by go_num, rfl, hnx, hhi, hB.out.trans (b1.mono hB.out.size)⟩
        case measure => simp [intOf]; omega
      · have hnx : Hid (∀ (k : Nat) (hk : k < es.length), h ≤ k → Op.bytesLess es[k].1.toList s.toList = false) := fun k hk hkh => by
          cases hb : Op.bytesLess es[k].1.toList s.toList with
          | false => rfl
          | true =>
            have := HM.out h k hkl hk hkh hb
            rw [hz'.out] at this
            exact absurd (HCN.out.2 this) hc
        clear hhi HCN hz'
        go_wp2_with fail
        (with_reducible refine hcc.mono ?_)
        rintro e w1 ⟨rfl, b1⟩
        go_wp2
        go_roundw
        case rel => exact ⟨p, h, by omega, by omega, rfl, rfl, hlo, hnx, hB.out.trans (b1.mono hB.out.size)⟩
        case measure => simp [intOf]; omega
    · have hlti : ¬ (p : Int) < (q : Int) := by omega
      obtain rfl : p = q := by omega
      have hsp : Hid (SpotEnt es s p) := ⟨by rw [HN.out]; exact hqn, hlo.out, hhi.out⟩
      clear hlo hhi
      by_cases hpn : p < n
      · have hpi : (p : Int) < (n : Int) := by omega
        have hp0 : (0 : Int) ≤ (p : Int) := by omega
        obtain ⟨eb, eo, z, u, rfl, _, x1, x2, hcc⟩ := HCC.out p wr hpn hB.out
        go_wp2_with fail
        (with_reducible refine hcc.mono ?_)
        rintro e w1 ⟨rfl, b1⟩
        have hend : Hid _ := hB.out.trans (b1.mono hB.out.size)
        obtain ⟨cv, hcv⟩ : ∃ c, cmpB z s = c := ⟨_, rfl⟩
        rw [hcv]
        clear b1 x1 x2 hcc
        go_wp2
        refine bodyPost_ret (v := .tuple #[.int .i64 p, .bool (cv == 0)]) (by simp [results, Tryz.f294, go_sem]) rfl ?_
        exact ⟨⟨p, cv == 0, rfl, hsp.out⟩, hend.out⟩
      · have hpi : ¬ (p : Int) < (n : Int) := by omega
        go_wp2
        refine bodyPost_ret (v := .tuple #[.int .i64 p, .bool false]) (by simp [results, Tryz.f294, go_sem]) rfl ?_
        exact ⟨⟨p, .inl rfl, hsp.out⟩, hB.out⟩
end

section
open Go.RowKit
theorem run_copy6Ent (w : World) (ty : TypeId) (g o dLen dCap : Nat) (a : Addr) (sLen sCap : Nat) (cur : Array Value) (t : TypeId) (cs : List Value) (m : Nat)
    (hg : w.heap[g]? = some (.cells cur t (0, 0))) (hm : Nat.min sLen dLen = m) (hn : cs.length = m * 2)
    (hsrc : ∀ j v, cs[j]? = some v → w.cell? (a.add j) = some v) (hfit : o + cs.length ≤ cur.size) (h1 : ∀ v ∈ cs, v.oneCell' = true) :
    (Builtin.copy_ #[65, 65] ty #[.slice (some ⟨g, o, none⟩) dLen dCap, .slice (some a) sLen sCap]).run Tryz.prog w =
      .ok (goInt m) (w.setRow g (cur.toList.take o ++ cs ++ cur.toList.drop (o + cs.length)).toArray) := by
  obtain ⟨ii, hii, zi0, zi1, zi2⟩ := info_parts Tryz.infoEnt
  have hl := run_loadCells_list (P := Tryz.prog) w a cs hsrc
  have hst := run_storeCells_at Tryz.prog g o t cs 0 cur w hg (by simpa using hfit) h1
  rw [hn] at hl
  simp [Builtin.copy_, run_underlying Tryz.underlying65, Builtin.lenOf, Builtin.firstCells, sizeOf, typeInfo, hii, zi1, hm, hl, hst]
structure FullEnt (w : World) (g n : Nat) (xs : List Value) : Prop where
  len : xs.length = n * 2
  blk : w.heap[g]? = some (.cells xs.toArray 154 (0, 0))
theorem full_ofEnt {B : Nat} {w : World} {g n : Nat} {xs : List Value} (h : w.ownsRow B 154 2 (.slice (some ⟨g, 0, none⟩) n n) n xs) : FullEnt w g n xs := by
  rcases h.2 with ⟨h', _⟩ | ⟨g', c, cur, h', _, h3, _, _, h6, h7⟩
  · simp at h'
  · simp at h'
    obtain ⟨rfl, rfl⟩ := h'
    refine ⟨h.1, ?_⟩
    rw [List.take_of_length_le (by rw [Array.length_toList]; omega)] at h7
    rw [h3, ← h7]
theorem FullEnt.cell {w : World} {g n : Nat} {xs : List Value} (h : FullEnt w g n xs) (j : Nat) (u : Value) (hu : xs[j]? = some u) : w.cell? ⟨g, j, none⟩ = some u := by
  rw [cell_of_row w g j _ _ (0, 0) h.blk]
  simpa using hu
theorem FullEnt.lt {w : World} {g n : Nat} {xs : List Value} (h : FullEnt w g n xs) : g < w.heap.size := (Array.getElem?_eq_some_iff.1 h.blk).1
def InsPostEnt (w : World) (B n : Nat) (ys : List Value) (e : Ending) (w' : World) : Prop :=
  ∃ c, e = .returned (.slice (some ⟨w.heap.size, 0, none⟩) (n + 1) c) ∧ w'.ownsRow B 154 2 (.slice (some ⟨w.heap.size, 0, none⟩) (n + 1) c) (n + 1) ys ∧ Below w.heap.size w w'
set_option maxRecDepth 100000 in
set_option maxHeartbeats 4000000 in
theorem insert_endEnt (B g n vb : Nat) (xs vs : List Value) (w : World) (hs : n ≤ 1048576) (hB : B ≤ w.heap.size) (hx : FullEnt w g n xs) (hv : ∀ j u, vs[j]? = some u → w.cell? ⟨vb, j, none⟩ = some u) (hvl : vs.length = 2) (h1v : ∀ u ∈ vs, u.oneCell' = true) :
    Calls Tryz.prog 296 #[.slice (some ⟨g, 0, none⟩) n n, .int .i64 n, .slice (some ⟨vb, 0, none⟩) 1 1] w fun e w' => InsPostEnt w B n (xs ++ vs) e w' := by
  obtain ⟨ii, hii, zi0, zi1, zi2⟩ := info_parts Tryz.infoEnt
  have hgl := hx.lt
  have hsrc : Go.Src Tryz.prog ii.size 65 (.slice (some ⟨vb, 0, none⟩) 1 1) 1 vs w := Go.Src.ofSlice w Tryz.underlying65 ⟨vb, 0, none⟩ 1 1 vs (by rw [hvl, zi1]) (fun j u hj => by rw [Addr.add_lit, Nat.zero_add]; exact hv j u hj) h1v
  have hrun : ∀ ty, (Builtin.append_ #[65, 65] ty #[.slice (some ⟨g, 0, none⟩) n n, .slice (some ⟨vb, 0, none⟩) 1 1]).run Tryz.prog w = _ := fun ty => run_append_grow_src w 65 65 ty 154 ii _ Tryz.underlying65 hii zi0 (some ⟨g, 0, none⟩) n n xs (run_firstCells_some w.drew ii.size n ⟨g, 0, none⟩ n n xs (by rw [hx.len, zi1]) (fun j u hj => by rw [Addr.add_lit, Nat.zero_add]; exact hx.cell j u hj)) (.slice (some ⟨vb, 0, none⟩) 1 1) 1 vs hsrc (by omega) (by omega) (growslice_fits (by omega) (by rw [zi2]; omega))
  have hG := grownCap_ge w (n + 1) n 154
  have hG2 := grownCap_le_maxLen w (n + 1) n 154 (by unfold maxLen; omega)
  obtain ⟨G, hGG⟩ : ∃ G, grownCap w (n + 1) n 154 = G := ⟨_, rfl⟩
  rw [hGG] at hrun hG hG2
  have hlen : (xs ++ vs).length = (n + 1) * 2 := by rw [List.length_append, hx.len, hvl]; omega
  have hfin : Hid (InsPostEnt w B n (xs ++ vs) (.returned (.slice (some ⟨w.heap.size, 0, none⟩) (n + 1) G)) (w.drew.alloc (.cells ((xs ++ vs).toArray ++ Builtin.zeroCells (Value.agg #[.string ⟨#[]⟩, .int .i64 0]).cells (G - (n + 1))) 154))) := by
    refine ⟨G, rfl, ⟨hlen, .inr ⟨w.heap.size, G, _, rfl, hB, heap_alloc_new w.drew _, hG, hG2, ?_, ?_⟩⟩, (Below.refl _ w).drew.alloc (Nat.le_refl _) _⟩
    · rw [Array.size_append, zeroCells_size, List.size_toArray, hlen]
      simp [Value.cells]
      omega
    · rw [← hlen, Array.toList_append, List.take_left' (by simp)]
  clear hG hG2 hlen hsrc hx hv
  have hn0 : (0 : Int) ≤ (n : Int) := by omega
  have hnn : (n : Int) ≤ (n : Int) := Int.le_refl _
  go_enter Tryz.func296, Tryz.ntmps296
  go_wp2_with (at_builtin; refine Lib.wpList_append_run _ rfl _ _ _ _ rfl _ _ rfl rfl _ _ (hrun _) ?_)
  go_ret
  exact hfin.out
set_option maxRecDepth 100000 in
set_option maxHeartbeats 4000000 in
theorem insert_midEnt (B g n vb k : Nat) (xs vs : List Value) (w : World) (hk : k < n) (hs : n ≤ 1048576) (hB : B ≤ w.heap.size) (hx : FullEnt w g n xs) (hv : ∀ j u, vs[j]? = some u → w.cell? ⟨vb, j, none⟩ = some u) (hvl : vs.length = 2) (h1x : ∀ u ∈ xs, u.oneCell' = true) (h1v : ∀ u ∈ vs, u.oneCell' = true) (hvb : vb < w.heap.size) :
    Calls Tryz.prog 296 #[.slice (some ⟨g, 0, none⟩) n n, .int .i64 k, .slice (some ⟨vb, 0, none⟩) 1 1] w fun e w' => InsPostEnt w B n (xs.take (k * 2) ++ vs ++ xs.drop (k * 2)) e w' := by
  obtain ⟨ii, hii, zi0, zi1, zi2⟩ := info_parts Tryz.infoEnt
  have hgl := hx.lt
  have hlx := hx.len
  have hik : k + (n + 1 - k) = n + 1 := by omega
  have hold : (Builtin.firstCells ii.size k (.slice (some ⟨g, 0, none⟩) k n)).run Tryz.prog w.drew = .ok (xs.take (k * 2)).toArray w.drew :=
    run_firstCells_some w.drew ii.size k ⟨g, 0, none⟩ k n (xs.take (k * 2)) (by rw [List.length_take, hlx, zi1]; omega) (fun j u hj => by
      rw [Addr.add_lit, Nat.zero_add]
      rw [List.getElem?_take] at hj
      split at hj
      · exact hx.cell j u hj
      · cases hj)
  have hrz : ∀ ty, (Builtin.append_ #[65, 3] ty #[.slice (some ⟨g, 0, none⟩) k n, .int .i64 ((n : Int) + 1 - (k : Int))]).run Tryz.prog w = .ok (.slice (some ⟨w.heap.size, 0, none⟩) (n + 1) (grownCap w (n + 1) n 154)) (w.drew.alloc (.cells ((xs.take (k * 2)).toArray ++ Builtin.zeroCells (Value.agg #[.string ⟨#[]⟩, .int .i64 0]).cells (n + 1 - k) ++ Builtin.zeroCells (Value.agg #[.string ⟨#[]⟩, .int .i64 0]).cells (grownCap w (n + 1) n 154 - (n + 1))) 154)) := fun ty => by
    have h := Lib.run_append_grow_zeros w 65 3 ty 154 ii _ .i64 .i64 Tryz.underlying65 Tryz.underlying3 hii zi0 (some ⟨g, 0, none⟩) k n (xs.take (k * 2)) hold (n + 1 - k) (by omega) (by omega) (by omega) (by omega) (by rw [zi2]; omega) (by rw [zi2, hik]; exact growslice_fits (by omega) (by omega))
    rw [hik] at h
    rw [show (n : Int) + 1 - (k : Int) = ((n + 1 - k : Nat) : Int) by omega]
    exact h
  have hG := grownCap_ge w (n + 1) n 154
  have hG2 := grownCap_le_maxLen w (n + 1) n 154 (by unfold maxLen; omega)
  obtain ⟨G, hGG⟩ : ∃ G, grownCap w (n + 1) n 154 = G := ⟨_, rfl⟩
  rw [hGG] at hrz hG hG2
  obtain ⟨R1, hR1⟩ : ∃ R, (xs.take (k * 2)).toArray ++ Builtin.zeroCells (Value.agg #[.string ⟨#[]⟩, .int .i64 0]).cells (n + 1 - k) ++ Builtin.zeroCells (Value.agg #[.string ⟨#[]⟩, .int .i64 0]).cells (G - (n + 1)) = R := ⟨_, rfl⟩
  rw [hR1] at hrz
  have hs1 : R1.size = G * 2 := by
    rw [← hR1, Array.size_append, Array.size_append, zeroCells_size, zeroCells_size, List.size_toArray, List.length_take, hlx]
    simp [Value.cells]
    omega
  have ht1 : R1.toList.take (k * 2) = xs.take (k * 2) := by
    rw [← hR1]
    simp only [Array.toList_append, List.append_assoc]
    rw [List.take_left' (by simp; omega)]
  obtain ⟨W1, hW1⟩ : ∃ W, w.drew.alloc (.cells R1 154) = W := ⟨_, rfl⟩
  have hb1 : Below w.heap.size w W1 := by rw [← hW1]; exact (Below.refl _ w).drew.alloc (Nat.le_refl _) _
  have g1 : W1.heap[w.heap.size]? = some (.cells R1 154 (0, 0)) := by rw [← hW1]; exact heap_alloc_new w.drew _
  rw [hW1] at hrz
  have c1 : ∀ ty dc, (Builtin.copy_ #[65, 65] ty #[.slice (some ⟨w.heap.size, k * 2, none⟩) (n + 1 - k) dc, .slice (some ⟨vb, 0, none⟩) 1 1]).run Tryz.prog W1 = _ := fun ty dc => run_copy6Ent W1 ty w.heap.size (k * 2) (n + 1 - k) dc ⟨vb, 0, none⟩ 1 1 R1 _ vs 1 g1 (by simp only [Nat.min_def]; split <;> omega) (by omega) (fun j u hj => by rw [Addr.add_lit, Nat.zero_add]; exact (hb1.cell (p := ⟨vb, j, none⟩) hvb).trans (hv j u hj)) (by omega) h1v
  obtain ⟨R2, hR2⟩ : ∃ R, (R1.toList.take (k * 2) ++ vs ++ R1.toList.drop (k * 2 + vs.length)).toArray = R := ⟨_, rfl⟩
  rw [hR2] at c1
  have hs2 : R2.size = G * 2 := by
    rw [← hR2]
    simp
    omega
  have ht2 : R2.toList.take ((k + 1) * 2) = xs.take (k * 2) ++ vs := by
    rw [← hR2, ht1]
    dsimp only
    rw [List.take_left' (by rw [List.length_append, List.length_take, hlx]; omega)]
  have g2 : (W1.setRow w.heap.size R2).heap[w.heap.size]? = some (.cells R2 154 (0, 0)) := setRow_heap W1 w.heap.size R1 R2 _ _ g1
  have hb2 : Below w.heap.size w (W1.setRow w.heap.size R2) := hb1.grown (w' := W1.setRow w.heap.size R2) (gr_row W1 w.heap.size R2) hb1.size (fun m hm => by simp at hm; omega) --⟨rfl, rfl, rfl, by simp, fun k _ hk => setRow_other W1 w.heap.size k _ (fun e => hk (by simp [e]))⟩ hb1.size (fun m hm => by simp at hm; omega)
  obtain ⟨W2, hW2⟩ : ∃ W, W1.setRow w.heap.size R2 = W := ⟨_, rfl⟩
  rw [hW2] at c1 g2 hb2
  have c2 : ∀ ty dc sc, (Builtin.copy_ #[65, 65] ty #[.slice (some ⟨w.heap.size, (k + 1) * 2, none⟩) (n + 1 - (k + 1)) dc, .slice (some ⟨g, k * 2, none⟩) (n - k) sc]).run Tryz.prog W2.drew = _ := fun ty dc sc => run_copy6Ent W2.drew ty w.heap.size ((k + 1) * 2) (n + 1 - (k + 1)) dc ⟨g, k * 2, none⟩ (n - k) sc R2 _ (xs.drop (k * 2)) (n - k) g2 (by simp only [Nat.min_def]; split <;> omega) (by rw [List.length_drop, hlx]; omega) (fun j u hj => by
      rw [Addr.add_lit]
      refine (hb2.cell (p := ⟨g, k * 2 + j, none⟩) hgl).trans (hx.cell _ u ?_)
      rwa [List.getElem?_drop] at hj) (by rw [List.length_drop, hlx]; omega) (fun u hu => h1x u (List.mem_of_mem_drop hu))
  obtain ⟨R3, hR3⟩ : ∃ R, (R2.toList.take ((k + 1) * 2) ++ xs.drop (k * 2) ++ R2.toList.drop ((k + 1) * 2 + (xs.drop (k * 2)).length)).toArray = R := ⟨_, rfl⟩
  rw [hR3] at c2
  have hs3 : R3.size = G * 2 := by
    rw [← hR3]
    simp [hlx]
    omega
  have hlen : (xs.take (k * 2) ++ vs ++ xs.drop (k * 2)).length = (n + 1) * 2 := by
    simp [hlx]
    omega
  have ht3 : R3.toList.take ((n + 1) * 2) = xs.take (k * 2) ++ vs ++ xs.drop (k * 2) := by
    rw [← hR3, ht2]
    dsimp only
    rw [List.take_left' hlen]
  have hfin : Hid (InsPostEnt w B n (xs.take (k * 2) ++ vs ++ xs.drop (k * 2)) (.returned (.slice (some ⟨w.heap.size, 0, none⟩) (n + 1) G)) (W2.drew.setRow w.heap.size R3)) := by
    refine ⟨G, rfl, ⟨hlen, .inr ⟨w.heap.size, G, R3, rfl, hB, setRow_heap W2.drew w.heap.size R2 R3 _ _ g2, hG, hG2, hs3, ht3⟩⟩, ?_⟩
    exact hb2.drew.grown (gr_row W2.drew w.heap.size R3) hb2.size (fun m hm => by simp at hm; omega)
  have hn1 : ¬ (k : Int) = (n : Int) := by omega
  have hn2 : (n : Int) < (n : Int) + 1 := by omega
  have hkn : (k : Int) ≤ (n : Int) := by omega
  have hk0 : (0 : Int) ≤ (k : Int) := by omega
  have hGk : ¬ (G = k) := by omega
  have hGk1 : ¬ (G = k + 1) := by omega
  have hnk : ¬ (n = k) := by omega
  have hnk2 : (k : Int) ≤ (n : Int) + 1 := by omega
  have hw1 : IntKind.i64.wrap ((k : Int) + 1) = (k : Int) + 1 := by rw [IntKind.wrap_i64]; omega
  have hw2 : (0 : Int) ≤ (k : Int) + 1 := by omega
  have hw3 : (k : Int) + 1 ≤ (n : Int) + 1 := by omega
  have hw4 : ((k : Int) + 1).toNat = k + 1 := by omega
  clear hG2 hold hR1 hs1 ht1 hb1 g1 hR2 hs2 ht2 g2 hb2 hR3 hs3 ht3 hlen hx hv hW1 hW2 hGG h1x h1v
  unfold maxLen at *
  go_enter Tryz.func296, Tryz.ntmps296
  go_wp2_with (first
    | (at_builtin; refine Lib.wpList_append_run _ rfl _ _ _ _ rfl _ _ rfl rfl _ _ (hrz _) ?_)
    | (at_builtin; refine wpList_copy_run _ rfl _ _ 65 65 rfl _ _ rfl rfl (c1 _ _) ?_))
  go_region_law (refine step_copy_run rfl _ _ 65 65 rfl (.slice (some ⟨w.heap.size, (k + 1) * 2, none⟩) (n + 1 - (k + 1)) (G - (k + 1))) (.slice (some ⟨g, k * 2, none⟩) (n - k) (n - k)) (by simp [Act.eval, Act.put]) (by simp [Act.eval, Act.put]) (c2 _ (G - (k + 1)) (n - k)) ?_)
  all_goals go_wp2
  all_goals go_ret
  all_goals exact hfin.out
theorem insert_anyEnt (B g n vb k : Nat) (xs vs : List Value) (w : World) (hk : k ≤ n) (hs : n ≤ 1048576) (hB : B ≤ w.heap.size) (hx : w.ownsRow B 154 2 (.slice (some ⟨g, 0, none⟩) n n) n xs) (hv : ∀ j u, vs[j]? = some u → w.cell? ⟨vb, j, none⟩ = some u) (hvl : vs.length = 2) (h1x : ∀ u ∈ xs, u.oneCell' = true) (h1v : ∀ u ∈ vs, u.oneCell' = true) (hvb : vb < w.heap.size) :
    Calls Tryz.prog 296 #[.slice (some ⟨g, 0, none⟩) n n, .int .i64 k, .slice (some ⟨vb, 0, none⟩) 1 1] w fun e w' => InsPostEnt w B n (xs.take (k * 2) ++ vs ++ xs.drop (k * 2)) e w' := by
  rcases Nat.lt_or_eq_of_le hk with h | rfl
  · exact insert_midEnt B g n vb k xs vs w h hs hB (full_ofEnt hx) hv hvl h1x h1v hvb
  · have := insert_endEnt B g k vb xs vs w hs hB (full_ofEnt hx) hv hvl h1v
    have hl := hx.1
    rw [List.take_of_length_le (by omega), List.drop_of_length_le (by omega), List.append_nil]
    exact this
end

section
open Go.RowKit
theorem shape_blk {w : World} {b : Nat} {t : TypeId} {vs : Array Value} (h : w.heap[b]? = some (.cells vs t (0, 0))) : w.shape? b = some (t, vs.size) := by simp [World.shape?, h]
theorem frozen_blk {w : World} {b : Nat} {t : TypeId} {vs : Array Value} (h : w.heap[b]? = some (.cells vs t (0, 0))) (k : Nat) : w.frozen? ⟨b, k, none⟩ = false := Blk.frozen (show Blk w b t vs from h) k
theorem gr_dr (w : World) (r : Option Nat) : w.grownBy w.drew r := ⟨rfl, rfl, rfl, Nat.le_refl _, fun _ _ _ => rfl⟩
set_option maxRecDepth 100000 in
set_option maxHeartbeats 4000000 in
theorem insert_endREnt (B g n c vb : Nat) (xs vs : List Value) (w : World) (hs : n ≤ 1048576) (hroom : n + 1 ≤ c) (ho : w.ownsRow B 154 2 (.slice (some ⟨g, 0, none⟩) n c) n xs) (hv : w.heap[vb]? = some (.cells vs.toArray 154 (0, 0))) (hvl : vs.length = 2) (h1v : ∀ u ∈ vs, u.oneCell' = true) :
    Calls Tryz.prog 296 #[.slice (some ⟨g, 0, none⟩) n c, .int .i64 n, .slice (some ⟨vb, 0, none⟩) 1 1] w fun e w' => e = .returned (.slice (some ⟨g, 0, none⟩) (n + 1) c) ∧ w'.ownsRow B 154 2 (.slice (some ⟨g, 0, none⟩) (n + 1) c) (n + 1) (xs ++ vs) ∧ w.grownBy w' (some g) := by
  obtain ⟨ii, hii, zi0, zi1, zi2⟩ := info_parts Tryz.infoEnt
  have hxl := ho.1
  rcases ho.2 with ⟨h0, _⟩ | ⟨g', c', cur, h0, hBg, hh, hnc, hcm, hcs, htk⟩
  · cases h0
  cases h0
  have hsrc : Go.Src Tryz.prog ii.size 65 (.slice (some ⟨vb, 0, none⟩) 1 1) 1 vs w := Go.Src.ofSlice w Tryz.underlying65 ⟨vb, 0, none⟩ 1 1 vs (by rw [hvl, zi1]) (fun j u hj => by rw [Addr.add_lit, Nat.zero_add, cell_of_row w vb j _ _ (0, 0) hv]; simpa using hj) h1v
  have hst := run_storeCells_at Tryz.prog g (n * 2) 154 vs 0 cur w hh (by rw [hvl]; omega) h1v
  obtain ⟨R, hR⟩ : ∃ R, (cur.toList.take (n * 2) ++ vs ++ cur.toList.drop (n * 2 + vs.length)).toArray = R := ⟨_, rfl⟩
  have hrun : ∀ ty, (Builtin.append_ #[65, 65] ty #[.slice (some ⟨g, 0, none⟩) n c, .slice (some ⟨vb, 0, none⟩) 1 1]).run Tryz.prog w = .ok (.slice (some ⟨g, 0, none⟩) (n + 1) c) (w.setRow g R) := fun ty => by
    rw [← hR]
    rcases hsrc.kind with ⟨e', hk⟩ | hk <;> simp [Builtin.append_, run_underlying Tryz.underlying65, sizeOf, typeInfo, hii, zi1, hsrc.len, hroom, zi1 ▸ hsrc.cells, Addr.add_lit, hst]
  have hfin : Hid (w.setRow g R |>.ownsRow B 154 2 (.slice (some ⟨g, 0, none⟩) (n + 1) c) (n + 1) (xs ++ vs)) := by
    refine ⟨by rw [List.length_append, hxl, hvl]; omega, .inr ⟨g, c, R, rfl, hBg, setRow_heap w g cur R _ _ hh, hroom, hcm, ?_, ?_⟩⟩
    · rw [← hR]; simp; omega
    · rw [← hR, htk]
      exact List.take_left' (by rw [List.length_append, hxl, hvl]; omega)
  have hgr : Hid (w.grownBy (w.setRow g R) (some g)) := gr_row w g R
  have hn0 : (0 : Int) ≤ (n : Int) := by omega
  have hnn : (n : Int) ≤ (n : Int) := Int.le_refl _
  have hcn : ¬ c = n := by omega
  clear hst hR hsrc htk hcs hh hv hnc hcm ho
  go_enter Tryz.func296, Tryz.ntmps296
  go_wp2_with (at_builtin; refine Lib.wpList_append_run _ rfl _ _ _ _ rfl _ _ rfl rfl _ _ (hrun _) ?_)
  go_ret
  exact ⟨rfl, hfin.out, hgr.out⟩
set_option maxRecDepth 100000 in
set_option maxHeartbeats 4000000 in
theorem insert_midREnt (B g n c vb k : Nat) (xs vs : List Value) (w : World) (hk : k < n) (hs : n ≤ 1048576) (hroom : n + 1 ≤ c) (ho : w.ownsRow B 154 2 (.slice (some ⟨g, 0, none⟩) n c) n xs) (hv : w.heap[vb]? = some (.cells vs.toArray 154 (0, 0))) (hne : vb ≠ g) (hvl : vs.length = 2) (h1x : ∀ u ∈ xs, u.oneCell' = true) (h1v : ∀ u ∈ vs, u.oneCell' = true) :
    Calls Tryz.prog 296 #[.slice (some ⟨g, 0, none⟩) n c, .int .i64 k, .slice (some ⟨vb, 0, none⟩) 1 1] w fun e w' => e = .returned (.slice (some ⟨g, 0, none⟩) (n + 1) c) ∧ w'.ownsRow B 154 2 (.slice (some ⟨g, 0, none⟩) (n + 1) c) (n + 1) (xs.take (k * 2) ++ vs ++ xs.drop (k * 2)) ∧ w.grownBy w' (some g) := by
  obtain ⟨ii, hii, zi0, zi1, zi2⟩ := info_parts Tryz.infoEnt
  have hxl := ho.1
  rcases ho.2 with ⟨h0, _⟩ | ⟨g', c', cur, h0, hBg, hh, hnc, hcm, hcs, htk⟩
  · cases h0
  cases h0
  have hdl : (xs.drop (k * 2)).length = (n - k) * 2 := by rw [List.length_drop, hxl]; omega
  have hov : ∀ lb cb, (callFunc 316 #[.slice (some ⟨vb, 0, none⟩) 1 1, .slice (some ⟨g, (k + 1) * 2, none⟩) lb cb]).run Tryz.prog w = .ok (.value (.bool false)) w := fun lb cb => by
    rw [run_callFunc_extern Tryz.func316 (by kernel_rfl) (by kernel_rfl) (by kernel_rfl) (e := Extern.SlicesOverlaps.overlaps #[65, 65] #[4]) (by kernel_rfl),
      Lib.run_overlaps_apart w 65 4 154 Tryz.underlying65 2 (fun w => by simp [sizeOf, typeInfo, hii, zi1]) ⟨vb, 0, none⟩ ⟨g, (k + 1) * 2, none⟩ 1 1 lb cb hne 154 154 vs.toArray.size cur.size (shape_blk hv) (shape_blk hh) (by omega) (frozen_blk hv _) (frozen_blk hv _)]
    rfl
  have cx : ∀ j u, xs[j]? = some u → w.cell? ⟨g, j, none⟩ = some u := fun j u hj => by
    rw [cell_of_row w g j _ _ (0, 0) hh]
    rw [← htk, List.getElem?_take] at hj
    split at hj
    · simpa using hj
    · cases hj
  have c1 : ∀ ty dc sc, (Builtin.copy_ #[65, 65] ty #[.slice (some ⟨g, (k + 1) * 2, none⟩) (n + 1 - (k + 1)) dc, .slice (some ⟨g, k * 2, none⟩) (n + 1 - k) sc]).run Tryz.prog w.drew = _ := fun ty dc sc => run_copy6Ent w.drew ty g ((k + 1) * 2) (n + 1 - (k + 1)) dc ⟨g, k * 2, none⟩ (n + 1 - k) sc cur _ (xs.drop (k * 2)) (n - k) hh (by simp only [Nat.min_def]; split <;> omega) hdl (fun j u hj => by
      rw [Addr.add_lit]
      exact cx _ u (by rwa [List.getElem?_drop] at hj)) (by rw [hdl]; omega) (fun u hu => h1x u (List.mem_of_mem_drop hu))
  obtain ⟨R1, hR1⟩ : ∃ R, (cur.toList.take ((k + 1) * 2) ++ xs.drop (k * 2) ++ cur.toList.drop ((k + 1) * 2 + (xs.drop (k * 2)).length)).toArray = R := ⟨_, rfl⟩
  rw [hR1] at c1
  have g1 : (w.drew.setRow g R1).heap[g]? = some (.cells R1 154 (0, 0)) := setRow_heap w.drew g cur R1 _ _ hh
  have hs1 : R1.size = c * 2 := by rw [← hR1]; simp [hxl]; omega
  have v1 : ∀ j u, vs[j]? = some u → (w.drew.setRow g R1).cell? ⟨vb, j, none⟩ = some u := fun j u hj => by
    rw [cell_of_row (w.drew.setRow g R1) vb j vs.toArray 154 (0, 0) ((setRow_other w.drew g vb R1 hne).trans hv)]
    simpa using hj
  obtain ⟨W1, hW1⟩ : ∃ W, w.drew.setRow g R1 = W := ⟨_, rfl⟩
  have gr1 : w.grownBy W1 (some g) := by rw [← hW1]; exact (gr_dr w (some g)).trans (gr_row w.drew g R1)
  rw [hW1] at c1 g1 v1
  have c2 : ∀ ty dc, (Builtin.copy_ #[65, 65] ty #[.slice (some ⟨g, k * 2, none⟩) (n + 1 - k) dc, .slice (some ⟨vb, 0, none⟩) 1 1]).run Tryz.prog W1 = _ := fun ty dc => run_copy6Ent W1 ty g (k * 2) (n + 1 - k) dc ⟨vb, 0, none⟩ 1 1 R1 _ vs 1 g1 (by simp only [Nat.min_def]; split <;> omega) (by omega) (fun j u hj => by rw [Addr.add_lit, Nat.zero_add]; exact v1 j u hj) (by omega) h1v
  obtain ⟨R2, hR2⟩ : ∃ R, (R1.toList.take (k * 2) ++ vs ++ R1.toList.drop (k * 2 + vs.length)).toArray = R := ⟨_, rfl⟩
  rw [hR2] at c2
  have hfin : Hid ((W1.setRow g R2).ownsRow B 154 2 (.slice (some ⟨g, 0, none⟩) (n + 1) c) (n + 1) (xs.take (k * 2) ++ vs ++ xs.drop (k * 2))) := by
    refine ⟨by simp [hxl, hvl]; omega, .inr ⟨g, c, R2, rfl, hBg, setRow_heap W1 g R1 R2 _ _ g1, hroom, hcm, ?_, ?_⟩⟩
    · rw [← hR2]; simp; omega
    · have e1 : R1.toList.take (k * 2) = xs.take (k * 2) := by
        rw [← hR1, ← htk]
        dsimp only
        rw [List.append_assoc, List.take_append_of_le_length (by simp; omega), List.take_take, List.take_take]
        congr 1
        omega
      have e2 : R1.toList.drop (k * 2 + vs.length) = xs.drop (k * 2) ++ cur.toList.drop ((k + 1) * 2 + (xs.drop (k * 2)).length) := by
        rw [← hR1, hvl]
        dsimp only
        rw [List.append_assoc, List.drop_left' (by simp; omega)]
      rw [← hR2, e1, e2]
      dsimp only
      rw [← List.append_assoc, List.take_left' (by simp [hxl, hvl]; omega)]
  have hgr : Hid (w.grownBy (W1.setRow g R2) (some g)) := gr1.trans (gr_row W1 g R2)
  have hn1 : ¬ (k : Int) = (n : Int) := by omega
  have hn2 : ¬ (c : Int) < (n : Int) + 1 := by omega
  have hkn : (k : Int) ≤ (n : Int) := by omega
  have hk0 : (0 : Int) ≤ (k : Int) := by omega
  have hck : ¬ (c = k) := by omega
  have hck1 : ¬ (c = k + 1) := by omega
  have hnk2 : (k : Int) ≤ (n : Int) + 1 := by omega
  have hnc1 : (n : Int) + 1 ≤ (c : Int) := by omega
  have hn01 : (0 : Int) ≤ (n : Int) + 1 := by omega
  have hwn : IntKind.i64.wrap ((n : Int) + 1) = (n : Int) + 1 := by rw [IntKind.wrap_i64]; omega
  have hw1 : IntKind.i64.wrap ((k : Int) + 1) = (k : Int) + 1 := by rw [IntKind.wrap_i64]; omega
  have hw2 : (0 : Int) ≤ (k : Int) + 1 := by omega
  have hw3 : (k : Int) + 1 ≤ (n : Int) + 1 := by omega
  have hw4 : ((k : Int) + 1).toNat = k + 1 := by omega
  have hw5 : ((n : Int) + 1).toNat = n + 1 := by omega
  clear hR1 hs1 g1 v1 hR2 gr1 hW1 cx htk hcs hh hv hnc ho hdl h1x h1v
  unfold maxLen at *
  go_enter Tryz.func296, Tryz.ntmps296
  go_wp2_with (simp only [hov])
  go_region_law (refine step_copy_run rfl _ _ 65 65 rfl (.slice (some ⟨g, (k + 1) * 2, none⟩) (n + 1 - (k + 1)) (c - (k + 1))) (.slice (some ⟨g, k * 2, none⟩) (n + 1 - k) (c - k)) (by simp [Act.eval, Act.put]) (by simp [Act.eval, Act.put]) (c1 _ (c - (k + 1)) (c - k)) ?_)
  all_goals go_wp2_with (at_builtin; refine wpList_copy_run _ rfl _ _ 65 65 rfl _ _ rfl rfl (c2 _ _) ?_)
  all_goals go_ret
  all_goals exact ⟨rfl, hfin.out, hgr.out⟩
end

section
open Go.RowKit
theorem own_rdQ {e : TypeId} {w : World} {a : Option Addr} {c n : Nat} {ps : List VP} (h : OwnQ e w (.slice a n c) n ps) : RdP w a ps := by
  rcases h.cases with ⟨h1, rfl, rfl⟩ | ⟨g, c', h1, ho⟩
  · exact .inl rfl
  · cases h1
    exact ho.rd
theorem pv_dropk (ps : List VP) (k : Nat) (hk : k ≤ ps.length) : (pv ps).drop (k * 2) = pv (ps.drop k) := by
  conv => lhs; rw [← List.take_append_drop k ps, pv_append]
  rw [List.drop_left' (by rw [pv_length, List.length_take]; omega)]
theorem pv_ins (ps : List VP) (p : VP) (k : Nat) (hk : k ≤ ps.length) : (pv ps).take (k * 2) ++ [p.1, p.2] ++ (pv ps).drop (k * 2) = pv (ps.take k ++ p :: ps.drop k) := by
  rw [pv_take, pv_dropk ps k hk, pv_append, List.append_assoc]
  rfl
theorem pv_one {ps : List VP} (h : ∀ p ∈ ps, p.1.oneCell' = true ∧ p.2.oneCell' = true) : ∀ u ∈ pv ps, u.oneCell' = true := fun u hu => by
  unfold pv at hu
  obtain ⟨p, hp, hup⟩ := List.mem_flatMap.1 hu
  simp at hup
  rcases hup with rfl | rfl
  · exact (h p hp).1
  · exact (h p hp).2
set_option maxRecDepth 100000 in
set_option maxHeartbeats 4000000 in
theorem insert_nilEnt (vb : Nat) (vs : List Value) (w : World) (hv : w.heap[vb]? = some (.cells vs.toArray 154 (0, 0))) (hvl : vs.length = 2) (h1v : ∀ u ∈ vs, u.oneCell' = true) :
    Calls Tryz.prog 296 #[.slice none 0 0, .int .i64 0, .slice (some ⟨vb, 0, none⟩) 1 1] w fun e w' => ∃ c, e = .returned (.slice (some ⟨w.heap.size, 0, none⟩) 1 c) ∧ w'.ownsRow 0 154 2 (.slice (some ⟨w.heap.size, 0, none⟩) 1 c) 1 vs ∧ Below w.heap.size w w' := by
  obtain ⟨ii, hii, zi0, zi1, zi2⟩ := info_parts Tryz.infoEnt
  have hsrc : Go.Src Tryz.prog ii.size 65 (.slice (some ⟨vb, 0, none⟩) 1 1) 1 vs w := Go.Src.ofSlice w Tryz.underlying65 ⟨vb, 0, none⟩ 1 1 vs (by rw [hvl, zi1]) (fun j u hj => by rw [Addr.add_lit, Nat.zero_add, cell_of_row w vb j _ _ (0, 0) hv]; simpa using hj) h1v
  have hrun : ∀ ty, (Builtin.append_ #[65, 65] ty #[.slice none 0 0, .slice (some ⟨vb, 0, none⟩) 1 1]).run Tryz.prog w = _ := fun ty => run_append_grow_src w 65 65 ty 154 ii _ Tryz.underlying65 hii zi0 none 0 0 [] (run_firstCells_none w.drew ii.size 0 0 0) (.slice (some ⟨vb, 0, none⟩) 1 1) 1 vs hsrc (by omega) (by omega) (growslice_fits (by omega) (by rw [zi2]; omega))
  have hG := grownCap_ge w (0 + 1) 0 154
  have hG2 := grownCap_le_maxLen w (0 + 1) 0 154 (by unfold maxLen; omega)
  obtain ⟨G, hGG⟩ : ∃ G, grownCap w (0 + 1) 0 154 = G := ⟨_, rfl⟩
  rw [hGG] at hrun hG hG2
  have hfin : Hid (∃ c, Ending.returned (.slice (some ⟨w.heap.size, 0, none⟩) (0 + 1) G) = .returned (.slice (some ⟨w.heap.size, 0, none⟩) 1 c) ∧ (w.drew.alloc (.cells (([] ++ vs).toArray ++ Builtin.zeroCells (Value.agg #[.string ⟨#[]⟩, .int .i64 0]).cells (G - (0 + 1))) 154)).ownsRow 0 154 2 (.slice (some ⟨w.heap.size, 0, none⟩) 1 c) 1 vs ∧ Below w.heap.size w (w.drew.alloc (.cells (([] ++ vs).toArray ++ Builtin.zeroCells (Value.agg #[.string ⟨#[]⟩, .int .i64 0]).cells (G - (0 + 1))) 154))) := by
    refine ⟨G, rfl, ⟨by rw [hvl], .inr ⟨w.heap.size, G, _, rfl, Nat.zero_le _, heap_alloc_new w.drew _, hG, hG2, ?_, ?_⟩⟩, (Below.refl _ w).drew.alloc (Nat.le_refl _) _⟩
    · rw [Array.size_append, zeroCells_size]
      simp [Value.cells, hvl]
      omega
    · rw [Array.toList_append, List.take_left' (by simp [hvl])]
      simp
  clear hG hG2 hsrc hv
  go_enter Tryz.func296, Tryz.ntmps296
  go_wp2_with (at_builtin; refine Lib.wpList_append_run _ rfl _ _ _ _ rfl _ _ rfl rfl _ _ (hrun _) ?_)
  go_ret
  exact hfin.out
/-- One put in, into any row of one's own. -/
theorem insert_rowEnt (v : Value) (n k vb : Nat) (ps : List VP) (p : VP) (w : World) (hs : n ≤ 1000000) (hk : k ≤ n) (ho : OwnQ 154 w v n ps) (hps : ∀ p ∈ ps, p.1.oneCell' = true ∧ p.2.oneCell' = true) (hv : w.heap[vb]? = some (.cells #[p.1, p.2] 154 (0, 0))) (h1 : p.1.oneCell' = true) (h2 : p.2.oneCell' = true) (hne : ∀ g, v.ownBlock = some g → vb ≠ g) :
    Calls Tryz.prog 296 #[v, .int .i64 k, .slice (some ⟨vb, 0, none⟩) 1 1] w fun e w' => ∃ v', e = .returned v' ∧ OwnQ 154 w' v' (n + 1) (ps.take k ++ p :: ps.drop k) ∧ w.grownBy w' v.ownBlock := by
  have hpl : ps.length = n := by have := ho.1; rw [pv_length] at this; omega
  have hone : ∀ u ∈ [p.1, p.2], u.oneCell' = true := fun u hu => by
    simp at hu
    rcases hu with rfl | rfl
    · exact h1
    · exact h2
  have hv' : w.heap[vb]? = some (.cells [p.1, p.2].toArray 154 (0, 0)) := hv
  have hvc : ∀ (j : Nat) u, [p.1, p.2][j]? = some u → w.cell? ⟨vb, j, none⟩ = some u := fun j u hj => by
    rw [cell_of_row w vb j _ _ (0, 0) hv]
    simpa using hj
  have hvb : vb < w.heap.size := (Array.getElem?_eq_some_iff.1 hv).1
  rcases ho.cases with ⟨rfl, rfl, rfl⟩ | ⟨g, c, rfl, hoP⟩
  · obtain rfl : k = 0 := by omega
    refine (insert_nilEnt vb [p.1, p.2] w hv' rfl hone).mono ?_
    rintro e w' ⟨c, rfl, o', b'⟩
    exact ⟨_, rfl, o', Below.gr b' _⟩
  · have hcap : n ≤ c := by
      rcases hoP.2 with ⟨h0, _⟩ | ⟨g', c', cur, h0, _, _, h3, _⟩
      · cases h0
      · cases h0
        exact h3
    rcases Nat.eq_or_lt_of_le hcap with rfl | hlt
    · refine (insert_anyEnt 0 g n vb k (pv ps) [p.1, p.2] w hk (by omega) (Nat.zero_le _) hoP hvc rfl (pv_one hps) hone hvb).mono ?_
      rintro e w' ⟨c', rfl, o', b'⟩
      rw [pv_ins ps p k (by omega)] at o'
      exact ⟨_, rfl, o', Below.gr b' _⟩
    · rcases Nat.lt_or_eq_of_le hk with h | rfl
      · refine (insert_midREnt 0 g n c vb k (pv ps) [p.1, p.2] w h (by omega) (by omega) hoP hv' (hne g rfl) rfl (pv_one hps) hone).mono ?_
        rintro e w' ⟨rfl, o', b'⟩
        rw [pv_ins ps p k (by omega)] at o'
        exact ⟨_, rfl, o', b'⟩
      · refine (insert_endREnt 0 g k c vb (pv ps) [p.1, p.2] w (by omega) (by omega) hoP hv' rfl hone).mono ?_
        rintro e w' ⟨rfl, o', b'⟩
        have hx := pv_ins ps p k (by omega)
        rw [List.take_of_length_le (by rw [pv_length]; omega), List.drop_of_length_le (by rw [pv_length]; omega), List.append_nil] at hx
        rw [hx] at o'
        exact ⟨_, rfl, o', b'⟩
theorem spot_insEnt {es : List (ByteArray × Int)} {z : ByteArray} {u : Int} {k : Nat} (h : SpotEnt es z k) (hno : ∀ e ∈ es, (e.1.toList == z.toList) = false) : es.take k ++ (z, u) :: es.drop k = insBy (fun q => gtS z q.1) es (z, u) := by
  refine (insBy_at h.1 (fun y hy => ?_) ?_).symm
  · obtain ⟨j, hj, rfl⟩ := List.getElem_of_mem hy
    rw [List.getElem_drop]
    rw [List.length_drop] at hj
    have h1 := h.2.2 (k + j) (by omega) (by omega)
    have h2 := hno es[k + j] (List.getElem_mem _)
    unfold gtS
    rw [h1, h2]
    rfl
  · rcases Nat.eq_zero_or_pos k with h0 | h0
    · exact .inl h0
    · have hk := h.1
      refine .inr ⟨es[k - 1], List.getElem?_eq_getElem (by omega), ?_⟩
      have h1 := h.2.1 (k - 1) (by omega) (by omega)
      unfold gtS
      rw [h1]
      rfl
set_option maxRecDepth 100000 in
set_option maxHeartbeats 4000000 in
theorem putNEnt (v : Value) (n : Nat) (es : List (ByteArray × Int)) (z : ByteArray) (u : Int) (w : World) (hs : n ≤ 1000000) (ho : OwnQ 154 w v n (eP es)) (hno : ∀ e ∈ es, (e.1.toList == z.toList) = false)
    (hm : ∀ (i j : Nat) (hi : i < es.length) (hj : j < es.length), i ≤ j → Op.bytesLess es[j].1.toList z.toList = true → Op.bytesLess es[i].1.toList z.toList = true) :
    Calls Tryz.prog 254 #[v, .agg #[.string z, .int .i64 u], .func (.func 223) #[] #[]] w fun e w' => ∃ v', e = .returned v' ∧ OwnQ 154 w' v' (n + 1) (eP (insBy (fun q => gtS z q.1) es (z, u))) ∧ w.grownBy w' v.ownBlock := by
  have hmf : ∀ (fn : Fn) (first cap : Array Value) (w : World), (Instr.makeFunc fn first cap).run Tryz.prog w = .ok (.func fn first cap) w := fun _ _ _ _ => rfl
  have b0 : Below w.heap.size w ((w.alloc (.cells #[.string z, .int .i64 u] 154)).alloc (.cells #[.func (.func 223) #[] #[]] 253)) := ((Below.refl _ w).alloc (Nat.le_refl _) _).alloc (by simp) _
  have zE := (Blk.new w 154 #[.string z, .int .i64 u]).alloc (.cells #[.func (.func 223) #[] #[]] 253)
  have zF := Blk.new (w.alloc (.cells #[.string z, .int .i64 u] 154)) 253 #[.func (.func 223) #[] #[]]
  simp only [World.size_alloc] at zF
  have hl : es.length = n := by have := ho.1; rw [pv_length, eP_length] at this; omega
  have hown : ∀ g, v.ownBlock = some g → g < w.heap.size := fun g hg => (World.ownsRow.lt ho g hg).2
  have HOW : Hid _ := hown
  have hcn := entName_any z u
  obtain ⟨a, cc, rfl⟩ := ownQ_shape ho
  have HO : Hid _ := ho
  have hcS := fun (W : World) (hW : Below w.heap.size w W) (hF : Blk W (w.heap.size + 1) 253 #[.func (.func 223) #[] #[]]) => searchEnt a n cc es z (w.heap.size + 1) W hl (by omega) (RdP.keep (own_rdQ HO.out) hW) hF hm
  have HNO : Hid _ := hno
  have HL : Hid _ := hl
  have hvb : ∀ g, (Value.slice a n cc).ownBlock = some g → g < w.heap.size := HOW.out
  have HB0 : Hid _ := b0
  have HZE : Hid _ := zE
  have HZF : Hid _ := zF
  have k0 := zF.cell 0
  have k1 := zE.cell 0
  have k2 := zE.cell 1
  simp at k0 k1 k2
  clear ho hown hm hno hl zE zF b0
  go_enter Tryz.func254, Tryz.ntmps254
  go_wp2_with fail
  obtain ⟨W0, hW0⟩ : ∃ W, ((w.alloc (.cells #[.string z, .int .i64 u] 154)).alloc (.cells #[.func (.func 223) #[] #[]] 253)) = W := ⟨_, rfl⟩
  rw [hW0] at HB0 HZE HZF ⊢
  clear hW0 k0 k1 k2
  (with_reducible refine (hcn W0).mono ?_)
  rintro e w1 ⟨rfl, b1⟩
  have hB1 := HB0.out.trans (b1.mono HB0.out.size)
  have zE1 := Blk.keep HZE.out b1
  have zF1 := Blk.keep HZF.out b1
  clear b1
  have hc2 := hcS w1 hB1 zF1
  go_wp2_with fail
  (with_reducible refine hc2.mono ?_)
  rintro e w2 ⟨⟨k, fb, rfl, hsp⟩, b2⟩
  have hB2 := hB1.trans (b2.mono hB1.size)
  have zE2 := Blk.keep zE1 b2
  have hk : k ≤ n := by have := hsp.1; rw [HL.out] at this; exact this
  have hB3 := hB2.alloc hB2.size (.cells #[.string z, .int .i64 u] 154)
  have zV := Blk.new w2 154 #[.string z, .int .i64 u]
  have ho3 : OwnQ 154 (w2.alloc (.cells #[.string z, .int .i64 u] 154)) (.slice a n cc) n (eP es) := row_kp HO.out (KpT.below hB3 [154]) (by simp)
  have hsz := hB2.size
  have hcI := insert_rowEnt (.slice a n cc) n k w2.heap.size (eP es) (.string z, .int .i64 u) (w2.alloc (.cells #[.string z, .int .i64 u] 154)) hs hk ho3 (eP_one es) zV rfl rfl (fun g hg => by have := HOW.out g hg; omega)
  rw [show (eP es).take k ++ (Value.string z, Value.int .i64 u) :: (eP es).drop k = eP (insBy (fun q => gtS z q.1) es (z, u)) by rw [eP_take, eP_drop, ← spot_insEnt hsp HNO.out]; simp [eP]] at hcI
  have hg3 : Hid (w.grownBy (w2.alloc (.cells #[.string z, .int .i64 u] 154)) (Value.slice a n cc).ownBlock) := Below.gr hB3 _
  have k1 := zE2.cell 0
  have k2 := zE2.cell 1
  simp at k1 k2
  clear hc2 hcS zE1 zF1 zE2 zV ho3 hB1 hB2 hB3 b2 hsp
  go_wp2_with fail
  (with_reducible refine hcI.mono ?_)
  rintro e w4 ⟨v4, rfl, o4, g4⟩
  have hend : Hid (OwnQ 154 w4 v4 (n + 1) (eP (insBy (fun q => gtS z q.1) es (z, u))) ∧ w.grownBy w4 (Value.slice a n cc).ownBlock) := ⟨o4, gr_tr hg3.out g4⟩
  clear hcI o4 g4 hg3
  go_wp2
  go_ret
  exact ⟨_, rfl, hend.out⟩
end
end Go.Proofs.YtbjfihabkpianaaGreatDoor
