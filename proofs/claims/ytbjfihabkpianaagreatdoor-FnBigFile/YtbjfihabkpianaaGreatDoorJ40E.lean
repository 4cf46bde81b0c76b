/-
  Joined: RemoveI, ChgRemoveDir, RemoveT.
-/
import Derived.Test.YtbjfihabkpianaaGreatDoorJ36E
namespace Go.Proofs.YtbjfihabkpianaaGreatDoor
section
open Go.RowKit
def removeC (ds : List InoD) (p : ByteArray) : Int := if notR p = false then 1 else if (badK 1 ds p).2 ≠ 0 then (badK 1 ds p).2 else if 0 < (badK 1 ds p).1.ents.length then 6 else 0
def removeT (ds : List InoD) (p : ByteArray) (E : InoD) : List InoD := dropD (setD ds { E with ents := cutE E.ents (strB (parentOf p.data.toList).2.1) }) (badK 1 ds p).1.ino
set_option maxRecDepth 100000 in
set_option maxHeartbeats 4000000 in
theorem removeM (a : Option Addr) (n cap : Nat) (nx : Int) (rs : List InoR) (p q : ByteArray) (k : Int) (da : Option Addr) (dn dc : Nat) (an av : ByteArray) (w : World) (ht : TR w a n rs) (hK : ∀ r ∈ rs, r.D.kind = 1 ∨ r.D.kind = 2) (hwf : ∀ r ∈ rs, (Lit.int .i64 r.D.ino).wf = true) (hwe : ∀ r ∈ rs, ∀ e ∈ r.D.ents, (Lit.int .i64 e.2).wf = true) (hE : ∀ r ∈ rs, r.D.ents.length ≤ 100) (hLk : ∀ r ∈ rs, 0 ≤ r.D.links ∧ r.D.links ≤ 1000) (hnl : n ≤ 100) (hs : p.size ≤ 4000000) (hps : (strB (parentOf p.data.toList).1).size ≤ 4000000) (E : InoD) (hE1 : notR p = true → (badK 1 (rs.map InoR.D) p).2 = 0 → badK 1 (rs.map InoR.D) (strB (parentOf p.data.toList).1) = (E, 0)) :
    Calls Tryz.prog 159 #[.agg #[.slice a n cap, .int .i64 nx], .agg #[.string p, .string q, .int .i64 k, .slice da dn dc, .string an, .string av]] w fun e w' => EMeth w nx (removeT (rs.map InoR.D) p E) (removeC (rs.map InoR.D) p) e w' := by
  have B0 : Below w.heap.size w (((w.alloc (.cells #[.slice a n cap, .int .i64 nx] 47)).alloc (.cells #[.string p, .string q, .int .i64 k, .slice da dn dc, .string an, .string av] 108)).alloc (.cells #[.slice none 0 0, .int .i64 0] 47)) := (((Below.refl _ w).alloc (Nat.le_refl _) _).alloc (by simp) _).alloc (by simp; omega) _
  have zT := ((Blk.new w 47 #[.slice a n cap, .int .i64 nx]).alloc (.cells #[.string p, .string q, .int .i64 k, .slice da dn dc, .string an, .string av] 108)).alloc (.cells #[.slice none 0 0, .int .i64 0] 47)
  have zC := (Blk.new (w.alloc (.cells #[.slice a n cap, .int .i64 nx] 47)) 108 #[.string p, .string q, .int .i64 k, .slice da dn dc, .string an, .string av]).alloc (.cells #[.slice none 0 0, .int .i64 0] 47)
  have zR := Blk.new ((w.alloc (.cells #[.slice a n cap, .int .i64 nx] 47)).alloc (.cells #[.string p, .string q, .int .i64 k, .slice da dn dc, .string an, .string av] 108)) 47 #[.slice none 0 0, .int .i64 0]
  simp only [World.size_alloc] at zC zR
  have hcW := fun (W : World) (hW : Below w.heap.size w W) (hD : badK 1 (rs.map InoR.D) (strB (parentOf p.data.toList).1) = (E, 0)) => withoutI a n cap nx rs p W (ht.keep hW) hK hwf hwe hE hs hps E hD
  have hcF := fun (W : World) (hW : Below w.heap.size w W) => dirI a n cap nx rs p W (ht.keep hW) hK hwf hwe hs
  obtain ⟨ds, hds⟩ : ∃ ds, rs.map InoR.D = ds := ⟨_, rfl⟩
  rw [hds] at hcW hcF hE1 ⊢
  have HDS : Hid _ := hds
  obtain ⟨CO, hCO⟩ : ∃ c, removeC ds p = c := ⟨_, rfl⟩
  obtain ⟨TT, hTT⟩ : ∃ c, removeT ds p E = c := ⟨_, rfl⟩
  rw [hCO, hTT]
  unfold removeC at hCO
  unfold removeT at hTT
  have HMEM : Hid _ := @badK_mem 1 ds p
  obtain ⟨D, c, hDc⟩ : ∃ D c, badK 1 ds p = (D, c) := ⟨_, _, rfl⟩
  rw [hDc] at hcF hCO hTT HMEM hE1
  dsimp only at hcF hCO hTT HMEM hE1
  obtain ⟨D1, hD1⟩ : ∃ l, setD ds { E with ents := cutE E.ents (strB (parentOf p.data.toList).2.1) } = l := ⟨_, rfl⟩
  rw [hD1] at hcW hTT
  have hsD1 : E ∈ ds → (∀ F ∈ D1, InoSmall F) ∧ D1.length ≤ 1048576 ∧ ∀ F ∈ D1, (Lit.int .i64 F.ino).wf = true := fun hEm => by
    have hin : ∀ F ∈ ds, InoSmall F ∧ (Lit.int .i64 F.ino).wf = true := fun F hF => by
      rw [← hds] at hF
      obtain ⟨r, hr, rfl⟩ := List.mem_map.1 hF
      exact ⟨ht.small r hr, hwf r hr⟩
    have hm : ∀ F ∈ D1, F = { E with ents := cutE E.ents (strB (parentOf p.data.toList).2.1) } ∨ F ∈ ds := fun F hF => setD_memC (by rw [hD1]; exact hF)
    refine ⟨fun F hF => ?_, ?_, fun F hF => ?_⟩
    · rcases hm F hF with rfl | h
      · exact cutE_small (hin E hEm).1 _
      · exact (hin F h).1
    · have h1 := setD_lenC ds { E with ents := cutE E.ents (strB (parentOf p.data.toList).2.1) }
      rw [hD1] at h1
      have h2 : ds.length = n := by rw [← hds, List.length_map, ht.len]
      omega
    · rcases hm F hF with rfl | h
      · exact (hin E hEm).2
      · exact (hin F h).2
  have HSM : Hid _ := ht.small
  have HWF : Hid _ := hwf
  have HLK : Hid _ := hLk
  have HTT : Hid _ := hTT
  have HE1 : Hid _ := hE1
  have HS1 : Hid _ := hsD1
  have HCW : Hid _ := hcW
  have hcN := fun (W : World) (g : Nat) (h : RdS W (some ⟨g, 0, none⟩) [p]) => notRootI (some ⟨g, 0, none⟩) 1 1 [p] W rfl (by omega) (fun z hz => by simp at hz; rw [hz]; exact hs) h
  have c0 := zC.cell 0
  simp at c0
  have bN : Below w.heap.size w ((((w.alloc (.cells #[.slice a n cap, .int .i64 nx] 47)).alloc (.cells #[.string p, .string q, .int .i64 k, .slice da dn dc, .string an, .string av] 108)).alloc (.cells #[.slice none 0 0, .int .i64 0] 47)).alloc (.cells #[.string p] 9)) := B0.alloc B0.size _
  have zN := Blk.new (((w.alloc (.cells #[.slice a n cap, .int .i64 nx] 47)).alloc (.cells #[.string p, .string q, .int .i64 k, .slice da dn dc, .string an, .string av] 108)).alloc (.cells #[.slice none 0 0, .int .i64 0] 47)) 9 #[.string p]
  simp only [World.size_alloc] at zN
  have zTn := zT.alloc (.cells #[.string p] 9)
  have zCn := zC.alloc (.cells #[.string p] 9)
  have zRn := zR.alloc (.cells #[.string p] 9)
  have hcn := hcN _ _ (strs_row zN)
  simp only [List.all_cons, List.all_nil, Bool.and_true] at hcn
  clear hcN hTT hE1 hsD1 hcW hds hDc hD1 ht hK hwf hwe hE hLk
  go_enter Tryz.func159, Tryz.ntmps159
  go_wp2_with fail
  obtain ⟨Wz, hWz⟩ : ∃ W, (((w.alloc (.cells #[.slice a n cap, .int .i64 nx] 47)).alloc (.cells #[.string p, .string q, .int .i64 k, .slice da dn dc, .string an, .string av] 108)).alloc (.cells #[.slice none 0 0, .int .i64 0] 47)).alloc (.cells #[.string p] 9) = W := ⟨_, rfl⟩
  rw [hWz] at bN zN zTn zCn zRn hcn ⊢
  clear hWz zT zC zR B0 c0 zN
  (with_reducible refine hcn.mono ?_)
  rintro e w1 ⟨rfl, b1⟩
  have zt1 := zTn.keep b1
  have zc1 := zCn.keep b1
  have zr1 := zRn.keep b1
  have hb1 := bN.trans (b1.mono bN.size)
  have c0 := zc1.cell 0
  have t0 := zt1.cell 0
  have t1 := zt1.cell 1
  have r0 := zr1.cell 0
  have r1 := zr1.cell 1
  have f0 := zr1.frozen 0
  have f1 := zr1.frozen 1
  simp at c0 t0 t1 r0 r1
  clear hcn zTn zCn zRn bN b1
  cases hnr : notR p with
  | false =>
    rw [hnr, if_pos rfl] at hCO
    subst hCO
    rw [if_neg (by decide), errV_some (by decide)]
    have zf := blk2 zr1 (.slice none 0 0) (.int .i64 0)
    have dd0 := zf.cell 0
    have dd1 := zf.cell 1
    simp at dd0 dd1
    have hend : Hid (EMeth w nx TT 1 (.returned (.tuple #[.agg #[.slice none 0 0, .int .i64 0], .iface 139 (.int .i64 1)])) ((w1.setCell ⟨w.heap.size + 1 + 1, 0, none⟩ (.slice none 0 0)).setCell ⟨w.heap.size + 1 + 1, 1, none⟩ (.int .i64 0))) := eMeth_no (by decide) ((hb1.setCell (p := ⟨w.heap.size + 1 + 1, 0, none⟩) (by show _ ≤ w.heap.size + 1 + 1; omega) _).setCell (p := ⟨w.heap.size + 1 + 1, 1, none⟩) (by show _ ≤ w.heap.size + 1 + 1; omega) _)
    clear zf zt1 zc1 zr1 hb1 hnr hcF
    go_wp2
    refine bodyPost_ret (v := .tuple #[.agg #[.slice none 0 0, .int .i64 0], .iface 139 (.int .i64 1)]) (by simp [results, Tryz.f159, go_sem, dd0, dd1]) rfl ?_
    exact hend.out
  | true =>
    rw [hnr, if_neg (by decide)] at hCO
    rw [if_pos rfl, errV_zero]
    have HNR : Hid _ := hnr
    have hcf := hcF w1 hb1
    clear hcF hnr
    go_wp2_with fail
    (with_reducible refine hcf.mono ?_)
    rintro e w2 ⟨b1, d1, b2, d2, b3, d3, rfl, g2, bb2⟩
    have zt := (zt1.keep bb2).alloc (.cells #[.int .i64 D.ino, .int .i64 D.kind, .int .i64 D.links, .slice b1 D.data.length d1, .slice b2 D.ents.length d2, .slice b3 D.attrs.length d3] 68)
    have zc := (zc1.keep bb2).alloc (.cells #[.int .i64 D.ino, .int .i64 D.kind, .int .i64 D.links, .slice b1 D.data.length d1, .slice b2 D.ents.length d2, .slice b3 D.attrs.length d3] 68)
    have zr := (zr1.keep bb2).alloc (.cells #[.int .i64 D.ino, .int .i64 D.kind, .int .i64 D.links, .slice b1 D.data.length d1, .slice b2 D.ents.length d2, .slice b3 D.attrs.length d3] 68)
    have hb2 := hb1.trans (bb2.mono hb1.size)
    have hb3 := hb2.alloc hb2.size (.cells #[.int .i64 D.ino, .int .i64 D.kind, .int .i64 D.links, .slice b1 D.data.length d1, .slice b2 D.ents.length d2, .slice b3 D.attrs.length d3] 68)
    have hbA : Below w2.heap.size w2 (w2.alloc (.cells #[.int .i64 D.ino, .int .i64 D.kind, .int .i64 D.links, .slice b1 D.data.length d1, .slice b2 D.ents.length d2, .slice b3 D.attrs.length d3] 68)) := (Below.refl _ w2).alloc (Nat.le_refl _) _
    have zX := Blk.new w2 68 #[.int .i64 D.ino, .int .i64 D.kind, .int .i64 D.links, .slice b1 D.data.length d1, .slice b2 D.ents.length d2, .slice b3 D.attrs.length d3]
    have g3 := g2.keep (Nat.le_refl _) hbA
    have hsR : w.heap.size + 1 + 1 < w2.heap.size := (zr1.keep bb2).lt
    obtain ⟨X, hX⟩ : ∃ X, w2.heap.size = X := ⟨_, rfl⟩
    obtain ⟨W3, hW3⟩ : ∃ W, w2.alloc (.cells #[.int .i64 D.ino, .int .i64 D.kind, .int .i64 D.links, .slice b1 D.data.length d1, .slice b2 D.ents.length d2, .slice b3 D.attrs.length d3] 68) = W := ⟨_, rfl⟩
    rw [hW3] at zt zc zr hb3 zX g3
    rw [hX] at zX g3 hsR
    have HZT : Hid _ := zt
    have HZC : Hid _ := zc
    have HZR : Hid _ := zr
    have HB3 : Hid _ := hb3
    have HG3 : Hid _ := g3
    have HZX : Hid _ := zX
    have r0 := zr.cell 0
    have r1 := zr.cell 1
    have f0 := zr.frozen 0
    have f1 := zr.frozen 1
    have c0 := zc.cell 0
    have t0 := zt.cell 0
    have t1 := zt.cell 1
    simp at r0 r1 c0 t0 t1
    clear hcf zt1 zc1 zr1 g2 bb2 hb2 hbA hb1 zt zc zr hb3 g3 zX
    by_cases hc0 : c = 0
    · subst hc0
      rw [if_neg (by simp)] at hCO
      rw [errV_zero]
      obtain ⟨x0, x1, x2, x3, x4, x5⟩ := Blk.six HZX.out
      by_cases hen : 0 < D.ents.length
      · rw [if_pos hen] at hCO
        subst hCO
        have heg : (D.ents.length : Int) > 0 := by omega
        have hend : Hid (EMeth w nx TT 6 (.returned (.tuple #[.agg #[.slice none 0 0, .int .i64 0], .iface 139 (.int .i64 6)])) ((W3.setCell ⟨w.heap.size + 1 + 1, 0, none⟩ (.slice none 0 0)).setCell ⟨w.heap.size + 1 + 1, 1, none⟩ (.int .i64 0))) := eMeth_no (by decide) ((HB3.out.setCell (p := ⟨w.heap.size + 1 + 1, 0, none⟩) (by show _ ≤ w.heap.size + 1 + 1; omega) _).setCell (p := ⟨w.heap.size + 1 + 1, 1, none⟩) (by show _ ≤ w.heap.size + 1 + 1; omega) _)
        have zf := blk2 HZR.out (.slice none 0 0) (.int .i64 0)
        have dd0 := zf.cell 0
        have dd1 := zf.cell 1
        simp at dd0 dd1
        clear zf hen
        go_wp2
        refine bodyPost_ret (v := .tuple #[.agg #[.slice none 0 0, .int .i64 0], .iface 139 (.int .i64 6)]) (by simp [results, Tryz.f159, go_sem, dd0, dd1]) rfl ?_
        exact hend.out
      rw [if_neg hen] at hCO
      subst hCO
      have heg : ¬ (D.ents.length : Int) > 0 := by omega
      have hw0 := HE1.out HNR.out rfl
      have hEm : E ∈ ds := by
        have h := @badK_mem 1 ds (strB (parentOf p.data.toList).1)
        rw [hw0] at h
        exact h rfl
      obtain ⟨s1, s2, s3⟩ := HS1.out hEm
      have hcw := HCW.out W3.drew HB3.out.drew hw0
      have hDm := HMEM.out rfl
      obtain ⟨rD, hrD, hrDD⟩ : ∃ r ∈ rs, r.D = D := by
        rw [← HDS.out] at hDm
        obtain ⟨r, hr, h⟩ := List.mem_map.1 hDm
        exact ⟨r, hr, h⟩
      have HWD : Hid ((Lit.int .i64 D.ino).wf = true) := hrDD ▸ HWF.out rD hrD
      have H1 : Hid _ := s1
      have H3 : Hid _ := s3
      have HK : Hid (∀ V : World, Below W3.heap.size W3 V → V.cell? ⟨w.heap.size, 0, none⟩ = some (.slice a n cap) ∧ V.cell? ⟨w.heap.size, 1, none⟩ = some (.int .i64 nx) ∧ V.cell? ⟨w.heap.size + 1, 0, none⟩ = some (.string p) ∧ V.cell? ⟨X, 0, none⟩ = some (.int .i64 D.ino)) := fun V hV => ⟨(Blk.keep HZT.out hV).cell 0, (Blk.keep HZT.out hV).cell 1, (Blk.keep HZC.out hV).cell 0, (Blk.keep HZX.out hV).cell 0⟩
      obtain ⟨DI, hDI⟩ : ∃ x, D.ino = x := ⟨_, rfl⟩
      rw [hDI] at HWD HK HTT x0
      have HTd : Hid (dropD D1 DI = TT) := HTT.out
      clear hDm hrD hrDD hw0 hEm s1 s3 hen hDI
      have nq1 : ¬ w.heap.size + 1 + 1 = w.heap.size := by omega
      have nq2 : ¬ w.heap.size = w.heap.size + 1 + 1 := by omega
      have nq3 : ¬ w.heap.size + 1 + 1 = X := by omega
      have nq4 : ¬ X = w.heap.size + 1 + 1 := by omega
      go_upto_region 9 with fail
      go_region_held3 (fun V : World => V.cell? ⟨w.heap.size, 0, none⟩ = some (.slice a n cap) ∧ V.cell? ⟨w.heap.size, 1, none⟩ = some (.int .i64 nx) ∧ V.cell? ⟨w.heap.size + 1, 0, none⟩ = some (.string p) ∧ V.cell? ⟨X, 0, none⟩ = some (.int .i64 DI)) (go_keep) (first
        | (go_at_call 209; (with_reducible refine hcw.mono ?_); rintro e w4 ⟨v4, rfl, ta4⟩; obtain ⟨a4, n4, c4, rs4, rfl, hT4, hR4, b4⟩ := ta4.read H1.out s2; have B4 : Below W3.heap.size W3 w4 := (Below.refl _ W3).drew.trans b4; have hK4 := HK.out w4 B4; obtain ⟨q0, q1, q2, q3⟩ := hK4; have hT4' := hT4 w4 (Below.refl _ _); have hW4 : ∀ r ∈ rs4, (Lit.int .i64 r.D.ino).wf = true := (fun r hr => H3.out r.D (by rw [← hR4]; exact List.mem_map_of_mem hr)); have hcI := dropI a4 n4 c4 nx DI rs4 w4 hT4'.len hT4'.n HWD.out hW4 hT4'.small hT4'.rd)
        | (go_at_call 210; (with_reducible refine hcI.mono ?_); intro e w6 hp6; obtain ⟨v6, rfl, ht6⟩ := hp6.tab; rw [dropD_eq, hR4, HTd.out] at ht6; have ht6' := ht6; obtain ⟨ra, rc, js, rfl, _, b6⟩ := ht6'; obtain ⟨rn, hrn⟩ : ∃ rn, js.length = rn := ⟨_, rfl⟩; rw [hrn] at ht6 ⊢; have B6 : Below W3.heap.size W3 w6 := B4.trans (b6.mono B4.size); have hK6 := HK.out w6 B6; obtain ⟨u0, u1, u2, u3⟩ := hK6; have zr6 := Blk.keep HZR.out B6; have y0 := zr6.cell 0; have y1 := zr6.cell 1; have yf0 := zr6.frozen 0; have yf1 := zr6.frozen 1; simp at y0 y1)
        | fail)
      have hb4 := HB3.out.trans (B4.mono HB3.out.size)
      have HFIN : Hid (EMeth w nx TT 0 (.returned (.tuple #[.agg #[.slice ra rn rc, .int .i64 nx], .nilIface])) ((w6.setCell ⟨w.heap.size + 1 + 1, 0, none⟩ (.slice ra rn rc)).setCell ⟨w.heap.size + 1 + 1, 1, none⟩ (.int .i64 nx))) := eMeth_yes ht6 hb4 (by omega) (Blk.keep HZR.out B4)
      have zf := blk2 zr6 (.slice ra rn rc) (.int .i64 nx)
      have dd0 := zf.cell 0
      have dd1 := zf.cell 1
      simp at dd0 dd1
      clear hcI hp6 ht6 zf zr6 b6 hrn hcw ta4 hT4 hT4' hR4 b4 B4 B6 hb4 q0 q1 q2 q3 u0 u1 u2 u3
      go_wp2
      refine bodyPost_ret (v := .tuple #[.agg #[.slice ra rn rc, .int .i64 nx], .nilIface]) (by simp [results, Tryz.f159, go_sem, dd0, dd1]) rfl ?_
      exact HFIN.out
    · rw [if_pos hc0] at hCO
      subst hCO
      have hend : Hid (EMeth w nx TT c (.returned (.tuple #[.agg #[.slice none 0 0, .int .i64 0], .iface 139 (.int .i64 c)])) ((W3.setCell ⟨w.heap.size + 1 + 1, 0, none⟩ (.slice none 0 0)).setCell ⟨w.heap.size + 1 + 1, 1, none⟩ (.int .i64 0))) := eMeth_no hc0 ((HB3.out.setCell (p := ⟨w.heap.size + 1 + 1, 0, none⟩) (by show _ ≤ w.heap.size + 1 + 1; omega) _).setCell (p := ⟨w.heap.size + 1 + 1, 1, none⟩) (by show _ ≤ w.heap.size + 1 + 1; omega) _)
      rw [errV_some hc0]
      have zf := blk2 HZR.out (.slice none 0 0) (.int .i64 0)
      have dd0 := zf.cell 0
      have dd1 := zf.cell 1
      simp at dd0 dd1
      clear hc0 zf
      go_wp2
      refine bodyPost_ret (v := .tuple #[.agg #[.slice none 0 0, .int .i64 0], .iface 139 (.int .i64 c)]) (by simp [results, Tryz.f159, go_sem, dd0, dd1]) rfl ?_
      exact hend.out
end

section
open Go.RowKit
theorem idx_removeDir (w : World) : (Instr.index 151 (.agg #[.func (.func 154) #[] #[], .func (.func 155) #[] #[], .func (.func 156) #[] #[], .func (.func 157) #[] #[], .func (.func 158) #[] #[], .func (.func 159) #[] #[], .func (.func 160) #[] #[], .func (.func 161) #[] #[], .func (.func 162) #[] #[]]) (.int .i64 5)).run Tryz.prog w = .ok (.func (.func 159) #[] #[]) w := by kernel_rfl
set_option maxRecDepth 100000 in
set_option maxHeartbeats 4000000 in
theorem changed_removeDir (a : Option Addr) (n cap : Nat) (nx : Int) (rs : List InoR) (p q : ByteArray) (k : Int) (da : Option Addr) (dn dc : Nat) (an av : ByteArray) (w : World) (ht : TR w a n rs) (hwf : ∀ r ∈ rs, (Lit.int .i64 r.D.ino).wf = true) (het : EtCell w) (nx' : Int) (ds' : List InoD) (c : Int) (N : Int) (D : List InoD) (C : Int)
    (h1 : treeD nx (rs.map InoR.D) = false → N = nx ∧ D = rs.map InoR.D ∧ C = 1) (h2 : treeD nx (rs.map InoR.D) = true → c ≠ 0 → N = nx ∧ D = rs.map InoR.D ∧ C = c) (h3 : treeD nx (rs.map InoR.D) = true → c = 0 → N = nx' ∧ D = ds' ∧ C = 0)
    (hm : treeD nx (rs.map InoR.D) = true → ∀ W : World, Below w.heap.size w W → Calls Tryz.prog 159 #[.agg #[.slice a n cap, .int .i64 nx], .agg #[.string p, .string q, .int .i64 k, .slice da dn dc, .string an, .string av]] W fun e w' => EMeth W nx' ds' c e w') :
    Calls Tryz.prog 76 #[.agg #[.slice a n cap, .int .i64 nx], .int .i64 5, .agg #[.string p, .string q, .int .i64 k, .slice da dn dc, .string an, .string av]] w fun e w' => TabC w N D C e w' := by
  have B0 : Below w.heap.size w (((w.alloc (.cells #[.slice a n cap, .int .i64 nx] 47)).alloc (.cells #[.string p, .string q, .int .i64 k, .slice da dn dc, .string an, .string av] 108)).alloc (.cells #[.slice none 0 0, .int .i64 0] 47)) := (((Below.refl _ w).alloc (Nat.le_refl _) _).alloc (by simp) _).alloc (by simp; omega) _
  have zT := ((Blk.new w 47 #[.slice a n cap, .int .i64 nx]).alloc (.cells #[.string p, .string q, .int .i64 k, .slice da dn dc, .string an, .string av] 108)).alloc (.cells #[.slice none 0 0, .int .i64 0] 47)
  have zC := (Blk.new (w.alloc (.cells #[.slice a n cap, .int .i64 nx] 47)) 108 #[.string p, .string q, .int .i64 k, .slice da dn dc, .string an, .string av]).alloc (.cells #[.slice none 0 0, .int .i64 0] 47)
  have zR := Blk.new ((w.alloc (.cells #[.slice a n cap, .int .i64 nx] 47)).alloc (.cells #[.string p, .string q, .int .i64 k, .slice da dn dc, .string an, .string av] 108)) 47 #[.slice none 0 0, .int .i64 0]
  simp only [World.size_alloc] at zC zR
  have hcT := treeI a n cap nx rs _ (ht.keep B0) hwf
  go_enter Tryz.func76, Tryz.ntmps76
  go_wp2_with fail
  obtain ⟨W0, hW0⟩ : ∃ W, (((w.alloc (.cells #[.slice a n cap, .int .i64 nx] 47)).alloc (.cells #[.string p, .string q, .int .i64 k, .slice da dn dc, .string an, .string av] 108)).alloc (.cells #[.slice none 0 0, .int .i64 0] 47)) = W := ⟨_, rfl⟩
  rw [hW0] at B0 zT zC zR hcT ⊢
  clear hW0
  (with_reducible refine hcT.mono ?_)
  rintro e w1 ⟨rfl, b1⟩
  clear hcT
  have hb1 := B0.trans (b1.mono B0.size)
  have zt := zT.keep b1
  have zc := zC.keep b1
  have zr := zR.keep b1
  have HT1 : Hid _ := ht.keep hb1
  have HE1 : Hid _ := het.keep hb1
  clear zT zC zR b1 ht het B0
  have t0 := zt.cell 0
  have t1 := zt.cell 1
  simp at t0 t1
  cases htr : treeD nx (rs.map InoR.D) with
  | false =>
    obtain ⟨rfl, rfl, rfl⟩ := h1 htr
    have hcC := copyTab_any a n cap N rs w1 HT1.out.len HT1.out.n HT1.out.small HT1.out.rd
    have HB1 : Hid _ := hb1
    have HZR : Hid _ := zr
    clear h1 h2 h3 hm htr hb1
    go_wp2_with fail
    (with_reducible refine hcC.mono ?_)
    intro e w2 hp2
    obtain ⟨g, rfl, b2, hfin⟩ := copyT hp2 HB1.out (by omega) HZR.out
    have zr2 := Blk.keep HZR.out b2
    have r0 := zr2.cell 0
    have r1 := zr2.cell 1
    have f0 := zr2.frozen 0
    have f1 := zr2.frozen 1
    simp at r0 r1
    have HFIN : Hid _ := hfin w2 (Below.refl _ _) 1
    have zf := blk2 zr2 (.slice (some ⟨g, 0, none⟩) n n) (.int .i64 N)
    have dd0 := zf.cell 0
    have dd1 := zf.cell 1
    simp at dd0 dd1
    clear hcC hp2 hfin zr2 zt zc zr t0 t1 zf
    go_wp2
    refine bodyPost_ret (v := .tuple #[.agg #[.slice (some ⟨g, 0, none⟩) n n, .int .i64 N], .int .i64 1]) (by simp [results, Tryz.f76, go_sem, dd0, dd1]) rfl ?_
    exact HFIN.out
  | true =>
    have hmm := hm htr
    have c0 := zc.cell 0
    have c1 := zc.cell 1
    have c2 := zc.cell 2
    have c3 := zc.cell 3
    have c4 := zc.cell 4
    have c5 := zc.cell 5
    simp at c0 c1 c2 c3 c4 c5
    have HB1 : Hid _ := hb1
    have HZR : Hid _ := zr
    have HZT : Hid _ := zt
    have HZC : Hid _ := zc
    have HMM : Hid _ := hmm
    have HH2 : Hid _ := h2 htr
    have HH3 : Hid _ := h3 htr
    have cC := changesI w1.drew
    have hsz : w.heap.size + 1 + 1 < w1.heap.size := zr.lt
    have hK : Hid (∀ W : World, Below w1.heap.size w1 W → W.cell? ⟨w.heap.size, 0, none⟩ = some (.slice a n cap) ∧ W.cell? ⟨w.heap.size, 1, none⟩ = some (.int .i64 nx) ∧ W.cell? ⟨w.heap.size + 1, 0, none⟩ = some (.string p) ∧ W.cell? ⟨w.heap.size + 1, 1, none⟩ = some (.string q) ∧ W.cell? ⟨w.heap.size + 1, 2, none⟩ = some (.int .i64 k) ∧ W.cell? ⟨w.heap.size + 1, 3, none⟩ = some (.slice da dn dc) ∧ W.cell? ⟨w.heap.size + 1, 4, none⟩ = some (.string an) ∧ W.cell? ⟨w.heap.size + 1, 5, none⟩ = some (.string av)) := fun W hW => by
      have z1 := Blk.keep HZT.out hW
      have z2 := Blk.keep HZC.out hW
      exact ⟨z1.cell 0, z1.cell 1, z2.cell 0, z2.cell 1, z2.cell 2, z2.cell 3, z2.cell 4, z2.cell 5⟩
    clear h1 h2 h3 hm htr hmm zt zc zr hb1
    go_upto_region 3 with fail
    have n0 : w1.heap.size ≠ w.heap.size := by omega
    have n1 : w1.heap.size ≠ w.heap.size + 1 := by omega
    have cC2 := changesI (w1.alloc (.cells #[.slice none 0 0, .int .i64 0] 47)).drew
    have zW1 := Blk.new w1 47 #[.slice none 0 0, .int .i64 0]
    have hix := idx_removeDir
    go_cut [8, 9] from 8 to 31 (fun bx er wx => ∃ (A : Nat) (ra : Option Addr) (rn rc : Nat) (rx : Int), bx = .pointer (some ⟨A, 0, none⟩) ∧ er = errV c ∧ Hid (CHR w1 nx' ds' c A (.slice ra rn rc) (.int .i64 rx) wx))
    case first =>
      go_region_held3 (fun W : World => W.cell? ⟨w.heap.size, 0, none⟩ = some (.slice a n cap) ∧ W.cell? ⟨w.heap.size, 1, none⟩ = some (.int .i64 nx) ∧ W.cell? ⟨w.heap.size + 1, 0, none⟩ = some (.string p) ∧ W.cell? ⟨w.heap.size + 1, 1, none⟩ = some (.string q) ∧ W.cell? ⟨w.heap.size + 1, 2, none⟩ = some (.int .i64 k) ∧ W.cell? ⟨w.heap.size + 1, 3, none⟩ = some (.slice da dn dc) ∧ W.cell? ⟨w.heap.size + 1, 4, none⟩ = some (.string an) ∧ W.cell? ⟨w.heap.size + 1, 5, none⟩ = some (.string av)) (go_keep) (first
        | (go_at_call 110; (with_reducible refine cC.mono ?_); rintro e w10 ⟨rfl, b10⟩; have B10 : Below w1.heap.size w1 w10 := (Below.refl _ w1).drew.trans b10; have K10 := hK.out w10 B10; obtain ⟨p0, p1, p2, p3, p4, p5, p6, p7⟩ := K10; have n2 : w10.heap.size ≠ w.heap.size := (by have := B10.size; omega); have n3 : w10.heap.size ≠ w.heap.size + 1 := (by have := B10.size; omega); have hm10 := HMM.out w10 (HB1.out.trans (B10.mono HB1.out.size)); have hm10a := HMM.out (w10.alloc (.cells #[.slice none 0 0, .int .i64 0] 47)) ((HB1.out.trans (B10.mono HB1.out.size)).alloc (by have := HB1.out.size; have := B10.size; omega) _))
        | (go_at_call 110; (with_reducible refine cC2.mono ?_); rintro e w11 ⟨rfl, b11⟩; have B11 : Below w1.heap.size w1 w11 := ((Below.refl _ w1).alloc (Nat.le_refl _) _).drew.trans (b11.mono (by show _ ≤ (w1.alloc _).heap.size; simp)); have K11 := hK.out w11 B11; obtain ⟨p0, p1, p2, p3, p4, p5, p6, p7⟩ := K11; have z11 : Blk w11 w1.heap.size 47 #[.slice none 0 0, .int .i64 0] := Blk.keep (Blk.drew zW1) b11; have hm11 := HMM.out w11 (HB1.out.trans (B11.mono HB1.out.size)))
        | (go_at_call 159; (with_reducible refine hm10.mono ?_); rintro e w12 ⟨ra, rn, rc, rx, rfl, b12, t12⟩; have B12 : Below w1.heap.size w1 w12 := B10.trans (b12.mono B10.size); have K12 := hK.out w12 B12; obtain ⟨q0, q1, q2, q3, q4, q5, q6, q7⟩ := K12)
        | (go_at_call 159; (with_reducible refine hm10a.mono ?_); rintro e w13 ⟨ra, rn, rc, rx, rfl, b13, t13⟩; have B13 : Below w1.heap.size w1 w13 := (B10.alloc B10.size _).trans (b13.mono (by have := B10.size; simp; omega)); have z13 := (Blk.new w10 47 #[.slice none 0 0, .int .i64 0]).keep b13; have u0 := z13.cell 0; have u1 := z13.cell 1; have x0 := z13.frozen 0; have x1 := z13.frozen 1; simp at u0 u1; have K13 := hK.out w13 B13; obtain ⟨q0, q1, q2, q3, q4, q5, q6, q7⟩ := K13)
        | (go_at_call 159; (with_reducible refine hm11.mono ?_); rintro e w14 ⟨ra, rn, rc, rx, rfl, b14, t14⟩; have B14 : Below w1.heap.size w1 w14 := B11.trans (b14.mono B11.size); have z14 := z11.keep b14; have u0 := z14.cell 0; have u1 := z14.cell 1; have x0 := z14.frozen 0; have x1 := z14.frozen 1; simp at u0 u1; have K14 := hK.out w14 B14; obtain ⟨q0, q1, q2, q3, q4, q5, q6, q7⟩ := K14))
      all_goals (go_wp2_with fail; go_meet)
      all_goals first
        | (have h := chr_new B12 b12 B10.size t12; exact ⟨_, _, _, _, _, rfl, rfl, h⟩)
        | (have h := chr_old B13 B10.size z13 (by simp) t13; exact ⟨_, _, _, _, _, rfl, rfl, h⟩)
        | (have h := chr_old B14 (Nat.le_refl _) z14 (Blk.lt z11) t14; exact ⟨_, _, _, _, _, rfl, rfl, h⟩)
        | fail
    case rest =>
      obtain ⟨A, ra, rn, rc, rx, rfl, rfl, hR⟩ := hcut
      obtain ⟨Wc, hwc⟩ : ∃ W, W = wc := ⟨_, rfl⟩
      subst hwc
      clear t0 t1 c0 c1 c2 c3 c4 c5 cC cC2 zW1 hK HMM n0 n1
      have zt := Blk.keep HZT.out hR.out.b
      have zr := Blk.keep HZR.out hR.out.b
      have hbc := HB1.out.trans (hR.out.b.mono HB1.out.size)
      have t0 := zt.cell 0
      have t1 := zt.cell 1
      simp at t0 t1
      by_cases hc0 : c = 0
      · obtain ⟨rfl, rfl, rfl⟩ := HH3.out hc0
        subst hc0
        rw [errV_zero]
        have HFIN : Hid _ := methT (hR.out.tab rfl) HB1.out (by omega) HZR.out Wc (Below.refl _ _)
        have a0 := hR.out.z.cell 0
        have a1 := hR.out.z.cell 1
        have r0 := zr.cell 0
        have r1 := zr.cell 1
        have f0 := zr.frozen 0
        have f1 := zr.frozen 1
        simp at a0 a1 r0 r1
        have zf := blk2 zr (.slice ra rn rc) (.int .i64 rx)
        have dd0 := zf.cell 0
        have dd1 := zf.cell 1
        simp at dd0 dd1
        clear zt zr zf hbc HH2 HH3 HT1 HE1 t0 t1
        go_wp2
        refine bodyPost_ret (v := .tuple #[.agg #[.slice ra rn rc, .int .i64 rx], .int .i64 0]) (by simp [results, Tryz.f76, go_sem, dd0, dd1]) rfl ?_
        exact HFIN.out
      · obtain ⟨rfl, rfl, rfl⟩ := HH2.out hc0
        rw [errV_some hc0]
        have hTc := HT1.out.keep hR.out.b
        have hEc := EtCell.keep HE1.out hR.out.b
        have hcC := copyTab_any a n cap N rs Wc hTc.len hTc.n hTc.small hTc.rd
        have HZ : Hid _ := zr
        have HBC : Hid _ := hbc
        have HEC : Hid _ := hEc
        have HC0 : Hid _ := hc0
        clear zt zr hbc HH2 HH3 HT1 HE1 hTc hEc hc0
        go_wp2_with fail
        (with_reducible refine hcC.mono ?_)
        intro e w2 hp2
        obtain ⟨g, rfl, b2, hfin⟩ := copyT hp2 HBC.out (by omega) HZ.out
        have hcO := codeOfI C w2 (EtCell.keep HEC.out b2)
        rw [errV_some HC0.out] at hcO
        clear hcC hp2 t0 t1
        go_wp2_with fail
        (with_reducible refine hcO.mono ?_)
        rintro e w3 ⟨rfl, b3⟩
        have zr3 := (Blk.keep HZ.out b2).keep b3
        have r0 := zr3.cell 0
        have r1 := zr3.cell 1
        have f0 := zr3.frozen 0
        have f1 := zr3.frozen 1
        simp at r0 r1
        have HFIN : Hid _ := hfin w3 b3 C
        have zf := blk2 zr3 (.slice (some ⟨g, 0, none⟩) n n) (.int .i64 N)
        have dd0 := zf.cell 0
        have dd1 := zf.cell 1
        simp at dd0 dd1
        clear hcO hfin zr3 zf
        go_wp2
        refine bodyPost_ret (v := .tuple #[.agg #[.slice (some ⟨g, 0, none⟩) n n, .int .i64 N], .int .i64 C]) (by simp [results, Tryz.f76, go_sem, dd0, dd1]) rfl ?_
        exact HFIN.out
end

section
open Go.RowKit
theorem badK_one {ds : List InoD} (h : ∀ D ∈ ds, D.kind = 1 ∨ D.kind = 2) (s : ByteArray) : (badK 1 ds s).2 = (if (statD ds s).2 ≠ 0 then (statD ds s).2 else if (statD ds s).1.kind ≠ 2 then 3 else 0) ∧ ((badK 1 ds s).2 = 0 → badK 1 ds s = statD ds s) := by
  by_cases h0 : (statD ds s).2 = 0
  · have hk := h _ (stat_in h0)
    by_cases h1 : (statD ds s).1.kind = 1
    · have e : badK 1 ds s = (inoZ.D, 3) := by unfold badK; exact if_pos ⟨h0, h1⟩
      have h2 : (statD ds s).1.kind ≠ 2 := by omega
      rw [e]
      exact ⟨by simp [h0, h2], fun h => by simp at h⟩
    · have e : badK 1 ds s = statD ds s := by unfold badK; exact if_neg (fun c => h1 c.2)
      have h2 : (statD ds s).1.kind = 2 := by omega
      rw [e]
      exact ⟨by simp [h0, h2], fun _ => rfl⟩
  · have e : badK 1 ds s = statD ds s := by unfold badK; exact if_neg (fun c => h0 c.1)
    rw [e]
    exact ⟨by simp [h0], fun _ => rfl⟩
theorem remove_code {nx : Int} {ds : List InoD} {s : ByteArray} (h : treeD nx ds = true) (hk2 : ∀ D ∈ ds, D.kind = 1 ∨ D.kind = 2) : removeC ds s = (removeD nx ds s).2 := by
  obtain ⟨h1, h2⟩ := badK_one hk2 s
  unfold removeC removeD notR
  rw [h]
  cases hp : (parentOf s.data.toList).2.2 with
  | false => simp
  | true =>
    by_cases h0 : (statD ds s).2 = 0
    · by_cases hk : (statD ds s).1.kind = 2
      · have hz : (badK 1 ds s).2 = 0 := by rw [h1]; simp [h0, hk]
        have h3 := h2 hz
        rw [h3]
        by_cases hl : 0 < (statD ds s).1.ents.length
        · simp [h0, hk, hl]
        · simp [h0, hk, hl]
      · have hz : (badK 1 ds s).2 = 3 := by rw [h1]; simp [h0, hk]
        simp [hz, h0, hk]
    · have hz : (badK 1 ds s).2 = (statD ds s).2 := by rw [h1]; simp [h0]
      simp [hz, h0]
theorem remove_same {nx : Int} {ds : List InoD} {s : ByteArray} : (removeD nx ds s).2 ≠ 0 → (removeD nx ds s).1 = ds := by
  unfold removeD
  repeat' split
  all_goals simp
theorem remove_done {nx : Int} {ds : List InoD} {s : ByteArray} : (removeD nx ds s).2 = 0 → (removeD nx ds s).1 = dropD (dropP ds s) (statD ds s).1.ino ∧ (statD ds s).2 = 0 ∧ (statD ds s).1.kind = 2 := by
  unfold removeD
  split
  · simp
  · split
    · rename_i h
      intro h'
      exact absurd h' h
    · rename_i h
      split
      · simp
      · rename_i hk
        split
        · simp
        · intro _
          exact ⟨rfl, Classical.byContradiction fun c => h c, Classical.byContradiction fun c => hk c⟩
theorem removeI (a : Option Addr) (n cap : Nat) (nx : Int) (rs : List InoR) (s : ByteArray) (w : World) (ht : TR w a n rs) (hwf : ∀ r ∈ rs, (Lit.int .i64 r.D.ino).wf = true) (het : EtCell w) (hs : s.size ≤ 4000000) :
    Calls Tryz.prog 37 #[.agg #[.slice a n cap, .int .i64 nx], .string s] w fun e w' => TabC w nx (removeD nx (rs.map InoR.D) s).1 (removeD nx (rs.map InoR.D) s).2 e w' := by
  refine wrap_RemoveDir a n cap nx s w nx _ _ (fun W hW => ?_)
  obtain ⟨E, hEE⟩ : ∃ E, (statD (rs.map InoR.D) (strB (parentOf s.data.toList).1)).1 = E := ⟨_, rfl⟩
  have hb : treeD nx (rs.map InoR.D) = true → _ := fun h => badK_one (ds := rs.map InoR.D) (fun D hD => by obtain ⟨r, hr, rfl⟩ := List.mem_map.1 hD; exact (tree_facts h).1 r hr) s
  refine changed_removeDir a n cap nx rs s ⟨#[]⟩ 0 none 0 0 ⟨#[]⟩ ⟨#[]⟩ W (ht.keep hW) hwf (het.keep hW) nx (removeT (rs.map InoR.D) s E) (removeC (rs.map InoR.D) s) nx _ _ ?_ ?_ ?_ ?_
  · intro h
    unfold removeD
    rw [if_pos (.inl h)]
    exact ⟨rfl, rfl, rfl⟩
  · intro h hc
    have hk2 : ∀ D ∈ rs.map InoR.D, D.kind = 1 ∨ D.kind = 2 := fun D hD => by obtain ⟨r, hr, rfl⟩ := List.mem_map.1 hD; exact (tree_facts h).1 r hr
    rw [remove_code h hk2] at hc ⊢
    exact ⟨rfl, remove_same hc, rfl⟩
  · intro h hc
    have hk2 : ∀ D ∈ rs.map InoR.D, D.kind = 1 ∨ D.kind = 2 := fun D hD => by obtain ⟨r, hr, rfl⟩ := List.mem_map.1 hD; exact (tree_facts h).1 r hr
    rw [remove_code h hk2] at hc
    obtain ⟨e1, e2, e3⟩ := remove_done hc
    obtain ⟨h1, h2⟩ := hb h
    have hz : (badK 1 (rs.map InoR.D) s).2 = 0 := by rw [h1]; simp [e2, e3]
    refine ⟨rfl, ?_, hc⟩
    rw [e1]
    unfold removeT dropP
    rw [h2 hz, hEE]
  · intro h W' hW'
    obtain ⟨f1, f2, f3⟩ := tree_facts h
    obtain ⟨f4, f5, f6⟩ := tree_more h
    obtain ⟨h1, h2⟩ := hb h
    have hn : n ≤ 100 := by rw [List.length_map, ht.len] at f6; omega
    refine removeM a n cap nx rs s ⟨#[]⟩ 0 none 0 0 ⟨#[]⟩ ⟨#[]⟩ W' ((ht.keep hW).keep hW') f1 f2 f3 (fun r hr => f4 r.D (List.mem_map_of_mem hr)) (fun r hr => f5 r.D (List.mem_map_of_mem hr)) hn hs (Nat.le_trans (parent_size s) hs) E (fun hnr hc0 => ?_)
    have h3 := h2 hc0
    rw [h3] at hc0
    rw [parent_bad (stat_walk hc0) hnr, hEE]
end
end Go.Proofs.YtbjfihabkpianaaGreatDoor
