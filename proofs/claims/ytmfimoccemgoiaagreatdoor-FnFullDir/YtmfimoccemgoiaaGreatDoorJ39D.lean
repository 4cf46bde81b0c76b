/-
  Joined: UnlinkI, ChgUnlink, UnlinkT, MakeT, RenM.
-/
import Derived.Test.YtmfimoccemgoiaaGreatDoorJ38D
namespace Go.Proofs.YtmfimoccemgoiaaGreatDoor
section
open Go.RowKit
theorem strs_row {W : World} {g : Nat} {z : ByteArray} (h : Blk W g 9 #[.string z]) : RdS W (some ⟨g, 0, none⟩) [z] := by
  refine .inr ⟨g, 0, rfl, fun i hi => ?_⟩
  have : i = 0 := by simp at hi; omega
  subst this
  exact h.cell 0
/-- A table that was answered, as it is read. -/
theorem TabAt.read {w w' : World} {nx : Int} {ds : List InoD} {v : Value} (h : TabAt w nx ds v w') (hs : ∀ D ∈ ds, InoSmall D) (hl : ds.length ≤ 1048576) : ∃ a n c rs, v = .agg #[.slice a n c, .int .i64 nx] ∧ (∀ W : World, Below w'.heap.size w' W → TR W a n rs) ∧ rs.map InoR.D = ds ∧ Below w.heap.size w w' := by
  obtain ⟨a, n, c, rs, h1, h2, h3, h4⟩ := h.tr hs hl
  exact ⟨a, n, c, rs, h1, fun W hW => h2.keep hW, h3, h4⟩
theorem wrap_small' {x : Int} (h0 : -1 ≤ x) (h1 : x ≤ 1000000) : IntKind.i64.wrap x = x := by rw [IntKind.wrap_i64]; omega
/-- A table that was answered can be read behind a store into an elder block. -/
theorem TabAt.setX {w w' W : World} {nx : Int} {ds : List InoD} {a : Option Addr} {n c X j : Nat} {u : Value} {rs : List InoR} (h : TabAt w nx ds (.agg #[.slice a n c, .int .i64 nx]) w') (hs : ∀ D ∈ ds, InoSmall D) (hl : ds.length ≤ 1048576) (_ : rs.map InoR.D = ds) (hb : Below w'.heap.size w' W) (hX : X < w.heap.size) : ∃ rs', TR (W.setCell ⟨X, j, none⟩ u) a n rs' ∧ rs'.map InoR.D = ds := by
  obtain ⟨a', c', js, hv, hq, _⟩ := h
  have h1 : (js.map InoJ.r).map InoR.D = ds := by rw [hq.ds, lift_map]
  have h2 : js.length = ds.length := by rw [← h1]; simp
  cases hv
  exact ⟨js.map InoJ.r, ⟨by simp, by omega, fun r hr => hs r.D (by rw [← h1]; exact List.mem_map_of_mem hr), ((hq.keep hb).setX hX j u).rd rfl⟩, h1⟩
theorem inoG_links {W : World} {B T : Nat} {D : InoD} {v1 v2 v3 : Value} (l : Int) (g : InoG W B T D v1 v2 v3) : InoG W B T { D with links := l } v1 v2 v3 := ⟨g.data, g.byt, g.ents, g.attrs, g.within⟩
theorem inoG_kp {W V : World} {B T : Nat} {D : InoD} {v1 v2 v3 : Value} (g : InoG W B T D v1 v2 v3) (hk : KpT W V [5, 89, 75]) : InoG V 0 V.heap.size D v1 v2 v3 := by
  have h1 : OwnV 0 V v1 D.data.length D.data := row_kp g.data hk (by decide)
  have h2 : OwnQ 89 V v2 D.ents.length (eP D.ents) := row_kp g.ents hk (by decide)
  have h3 : OwnQ 75 V v3 D.attrs.length (aP D.attrs) := row_kp g.attrs hk (by decide)
  refine ⟨h1, g.byt, h2, h3, fun m hm => ⟨Nat.zero_le _, ?_⟩⟩
  rcases hm with hm | hm | hm
  · exact (World.ownsRow.lt h1 m hm).2
  · exact (World.ownsRow.lt h2 m hm).2
  · exact (World.ownsRow.lt h3 m hm).2
def unlinkC (ds : List InoD) (p : ByteArray) : Int := if notR p = false then 1 else (badK 2 ds p).2
def unlinkT (ds : List InoD) (p : ByteArray) (E : InoD) : List InoD :=
  if (badK 2 ds p).1.links - 1 = 0 then dropD (setD ds { E with ents := cutE E.ents (strB (parentOf p.data.toList).2.1) }) (badK 2 ds p).1.ino
  else setD (setD ds { E with ents := cutE E.ents (strB (parentOf p.data.toList).2.1) }) { (badK 2 ds p).1 with links := (badK 2 ds p).1.links - 1 }
set_option maxRecDepth 100000 in
set_option maxHeartbeats 4000000 in
theorem unlinkM (a : Option Addr) (n cap : Nat) (nx : Int) (rs : List InoR) (p q : ByteArray) (k : Int) (da : Option Addr) (dn dc : Nat) (an av : ByteArray) (w : World) (ht : TR w a n rs) (hK : ∀ r ∈ rs, r.D.kind = 1 ∨ r.D.kind = 2) (hwf : ∀ r ∈ rs, (Lit.int .i64 r.D.ino).wf = true) (hwe : ∀ r ∈ rs, ∀ e ∈ r.D.ents, (Lit.int .i64 e.2).wf = true) (hE : ∀ r ∈ rs, r.D.ents.length ≤ 100) (hLk : ∀ r ∈ rs, 0 ≤ r.D.links ∧ r.D.links ≤ 1000) (hnl : n ≤ 100) (hs : p.size ≤ 4000000) (hps : (strB (parentOf p.data.toList).1).size ≤ 4000000) (E : InoD) (hE1 : notR p = true → (badK 2 (rs.map InoR.D) p).2 = 0 → badK 1 (rs.map InoR.D) (strB (parentOf p.data.toList).1) = (E, 0)) :
    Calls Tryz.prog 171 #[.agg #[.slice a n cap, .int .i64 nx], .agg #[.string p, .string q, .int .i64 k, .slice da dn dc, .string an, .string av]] w fun e w' => EMeth w nx (unlinkT (rs.map InoR.D) p E) (unlinkC (rs.map InoR.D) p) e w' := by
  have B0 : Below w.heap.size w (((w.alloc (.cells #[.slice a n cap, .int .i64 nx] 28)).alloc (.cells #[.string p, .string q, .int .i64 k, .slice da dn dc, .string an, .string av] 77)).alloc (.cells #[.slice none 0 0, .int .i64 0] 28)) := (((Below.refl _ w).alloc (Nat.le_refl _) _).alloc (by simp) _).alloc (by simp; omega) _
  have zT := ((Blk.new w 28 #[.slice a n cap, .int .i64 nx]).alloc (.cells #[.string p, .string q, .int .i64 k, .slice da dn dc, .string an, .string av] 77)).alloc (.cells #[.slice none 0 0, .int .i64 0] 28)
  have zC := (Blk.new (w.alloc (.cells #[.slice a n cap, .int .i64 nx] 28)) 77 #[.string p, .string q, .int .i64 k, .slice da dn dc, .string an, .string av]).alloc (.cells #[.slice none 0 0, .int .i64 0] 28)
  have zR := Blk.new ((w.alloc (.cells #[.slice a n cap, .int .i64 nx] 28)).alloc (.cells #[.string p, .string q, .int .i64 k, .slice da dn dc, .string an, .string av] 77)) 28 #[.slice none 0 0, .int .i64 0]
  simp only [World.size_alloc] at zC zR
  have hcW := fun (W : World) (hW : Below w.heap.size w W) (hD : badK 1 (rs.map InoR.D) (strB (parentOf p.data.toList).1) = (E, 0)) => withoutI a n cap nx rs p W (ht.keep hW) hK hwf hwe hE hs hps E hD
  have hcF := fun (W : World) (hW : Below w.heap.size w W) => fileI a n cap nx rs p W (ht.keep hW) hK hwf hwe hs
  obtain ⟨ds, hds⟩ : ∃ ds, rs.map InoR.D = ds := ⟨_, rfl⟩
  rw [hds] at hcW hcF hE1 ⊢
  have HDS : Hid _ := hds
  obtain ⟨CO, hCO⟩ : ∃ c, unlinkC ds p = c := ⟨_, rfl⟩
  obtain ⟨TT, hTT⟩ : ∃ c, unlinkT ds p E = c := ⟨_, rfl⟩
  rw [hCO, hTT]
  unfold unlinkC at hCO
  unfold unlinkT at hTT
  have HMEM : Hid _ := @badK_mem 2 ds p
  obtain ⟨D, c, hDc⟩ : ∃ D c, badK 2 ds p = (D, c) := ⟨_, _, rfl⟩
  rw [hDc] at hcF hCO hTT HMEM hE1
  dsimp only at hcF hCO hTT HMEM hE1
  obtain ⟨D1, hD1⟩ : ∃ l, setD ds { E with ents := cutE E.ents (strB (parentOf p.data.toList).2.1) } = l := ⟨_, rfl⟩
  rw [hD1] at hcW hTT
  have hsD1 : E ∈ ds → (∀ F ∈ D1, InoSmall F) ∧ D1.length ≤ 1048576 ∧ ∀ F ∈ D1, (Lit.int .i64 F.ino).wf = true := fun hEm => by
    have hin : ∀ F ∈ ds, InoSmall F ∧ (Lit.int .i64 F.ino).wf = true := fun F hF => by
      rw [← hds] at hF
      obtain ⟨r, hr, rfl⟩ := List.mem_map.1 hF
      exact ⟨ht.small r hr, hwf r hr⟩
    have hm : ∀ F ∈ D1, F = { E with ents := cutE E.ents (strB (parentOf p.data.toList).2.1) } ∨ F ∈ ds := fun F hF => setD_memC (by rw [hD1]; exact hF)
    refine ⟨fun F hF => ?_, ?_, fun F hF => ?_⟩
    · rcases hm F hF with rfl | h
      · exact cutE_small (hin E hEm).1 _
      · exact (hin F h).1
    · have h1 := setD_lenC ds { E with ents := cutE E.ents (strB (parentOf p.data.toList).2.1) }
      rw [hD1] at h1
      have h2 : ds.length = n := by rw [← hds, List.length_map, ht.len]
      omega
    · rcases hm F hF with rfl | h
      · exact (hin E hEm).2
      · exact (hin F h).2
  have HSM : Hid _ := ht.small
  have HWF : Hid _ := hwf
  have HLK : Hid _ := hLk
  have HTT : Hid _ := hTT
  have HE1 : Hid _ := hE1
  have HS1 : Hid _ := hsD1
  have HCW : Hid _ := hcW
  have hcN := fun (W : World) (g : Nat) (h : RdS W (some ⟨g, 0, none⟩) [p]) => notRootI (some ⟨g, 0, none⟩) 1 1 [p] W rfl (by omega) (fun z hz => by simp at hz; rw [hz]; exact hs) h
  have c0 := zC.cell 0
  simp at c0
  have bN : Below w.heap.size w ((((w.alloc (.cells #[.slice a n cap, .int .i64 nx] 28)).alloc (.cells #[.string p, .string q, .int .i64 k, .slice da dn dc, .string an, .string av] 77)).alloc (.cells #[.slice none 0 0, .int .i64 0] 28)).alloc (.cells #[.string p] 9)) := B0.alloc B0.size _
  have zN := Blk.new (((w.alloc (.cells #[.slice a n cap, .int .i64 nx] 28)).alloc (.cells #[.string p, .string q, .int .i64 k, .slice da dn dc, .string an, .string av] 77)).alloc (.cells #[.slice none 0 0, .int .i64 0] 28)) 9 #[.string p]
  simp only [World.size_alloc] at zN
  have zTn := zT.alloc (.cells #[.string p] 9)
  have zCn := zC.alloc (.cells #[.string p] 9)
  have zRn := zR.alloc (.cells #[.string p] 9)
  have hcn := hcN _ _ (strs_row zN)
  simp only [List.all_cons, List.all_nil, Bool.and_true] at hcn
  clear hcN hTT hE1 hsD1 hcW hds hDc hD1 ht hK hwf hwe hE hLk
  go_enter Tryz.func171, Tryz.ntmps171
  go_wp2_with fail
  obtain ⟨Wz, hWz⟩ : ∃ W, (((w.alloc (.cells #[.slice a n cap, .int .i64 nx] 28)).alloc (.cells #[.string p, .string q, .int .i64 k, .slice da dn dc, .string an, .string av] 77)).alloc (.cells #[.slice none 0 0, .int .i64 0] 28)).alloc (.cells #[.string p] 9) = W := ⟨_, rfl⟩
  rw [hWz] at bN zN zTn zCn zRn hcn ⊢
  clear hWz zT zC zR B0 c0 zN
  (with_reducible refine hcn.mono ?_)
  rintro e w1 ⟨rfl, b1⟩
  have zt1 := zTn.keep b1
  have zc1 := zCn.keep b1
  have zr1 := zRn.keep b1
  have hb1 := bN.trans (b1.mono bN.size)
  have c0 := zc1.cell 0
  have t0 := zt1.cell 0
  have t1 := zt1.cell 1
  have r0 := zr1.cell 0
  have r1 := zr1.cell 1
  have f0 := zr1.frozen 0
  have f1 := zr1.frozen 1
  simp at c0 t0 t1 r0 r1
  clear hcn zTn zCn zRn bN b1
  cases hnr : notR p with
  | false =>
    rw [hnr, if_pos rfl] at hCO
    subst hCO
    rw [if_neg (by decide), errV_some (by decide)]
    have zf := blk2 zr1 (.slice none 0 0) (.int .i64 0)
    have dd0 := zf.cell 0
    have dd1 := zf.cell 1
    simp at dd0 dd1
    have hend : Hid (EMeth w nx TT 1 (.returned (.tuple #[.agg #[.slice none 0 0, .int .i64 0], .iface 155 (.int .i64 1)])) ((w1.setCell ⟨w.heap.size + 1 + 1, 0, none⟩ (.slice none 0 0)).setCell ⟨w.heap.size + 1 + 1, 1, none⟩ (.int .i64 0))) := eMeth_no (by decide) ((hb1.setCell (p := ⟨w.heap.size + 1 + 1, 0, none⟩) (by show _ ≤ w.heap.size + 1 + 1; omega) _).setCell (p := ⟨w.heap.size + 1 + 1, 1, none⟩) (by show _ ≤ w.heap.size + 1 + 1; omega) _)
    clear zf zt1 zc1 zr1 hb1 hnr hcF
    go_wp2
    refine bodyPost_ret (v := .tuple #[.agg #[.slice none 0 0, .int .i64 0], .iface 155 (.int .i64 1)]) (by simp [results, Tryz.f171, go_sem, dd0, dd1]) rfl ?_
    exact hend.out
  | true =>
    rw [hnr, if_neg (by decide)] at hCO
    subst hCO
    rw [if_pos rfl, errV_zero]
    have HNR : Hid _ := hnr
    have hcf := hcF w1 hb1
    clear hcF hnr
    go_wp2_with fail
    (with_reducible refine hcf.mono ?_)
    rintro e w2 ⟨b1, d1, b2, d2, b3, d3, rfl, g2, bb2⟩
    have zt := (zt1.keep bb2).alloc (.cells #[.int .i64 D.ino, .int .i64 D.kind, .int .i64 D.links, .slice b1 D.data.length d1, .slice b2 D.ents.length d2, .slice b3 D.attrs.length d3] 68)
    have zc := (zc1.keep bb2).alloc (.cells #[.int .i64 D.ino, .int .i64 D.kind, .int .i64 D.links, .slice b1 D.data.length d1, .slice b2 D.ents.length d2, .slice b3 D.attrs.length d3] 68)
    have zr := (zr1.keep bb2).alloc (.cells #[.int .i64 D.ino, .int .i64 D.kind, .int .i64 D.links, .slice b1 D.data.length d1, .slice b2 D.ents.length d2, .slice b3 D.attrs.length d3] 68)
    have hb2 := hb1.trans (bb2.mono hb1.size)
    have hb3 := hb2.alloc hb2.size (.cells #[.int .i64 D.ino, .int .i64 D.kind, .int .i64 D.links, .slice b1 D.data.length d1, .slice b2 D.ents.length d2, .slice b3 D.attrs.length d3] 68)
    have hbA : Below w2.heap.size w2 (w2.alloc (.cells #[.int .i64 D.ino, .int .i64 D.kind, .int .i64 D.links, .slice b1 D.data.length d1, .slice b2 D.ents.length d2, .slice b3 D.attrs.length d3] 68)) := (Below.refl _ w2).alloc (Nat.le_refl _) _
    have zX := Blk.new w2 68 #[.int .i64 D.ino, .int .i64 D.kind, .int .i64 D.links, .slice b1 D.data.length d1, .slice b2 D.ents.length d2, .slice b3 D.attrs.length d3]
    have g3 := g2.keep (Nat.le_refl _) hbA
    have hsR : w.heap.size + 1 + 1 < w2.heap.size := (zr1.keep bb2).lt
    obtain ⟨X, hX⟩ : ∃ X, w2.heap.size = X := ⟨_, rfl⟩
    obtain ⟨W3, hW3⟩ : ∃ W, w2.alloc (.cells #[.int .i64 D.ino, .int .i64 D.kind, .int .i64 D.links, .slice b1 D.data.length d1, .slice b2 D.ents.length d2, .slice b3 D.attrs.length d3] 68) = W := ⟨_, rfl⟩
    rw [hW3] at zt zc zr hb3 zX g3
    rw [hX] at zX g3 hsR
    have HZT : Hid _ := zt
    have HZC : Hid _ := zc
    have HZR : Hid _ := zr
    have HB3 : Hid _ := hb3
    have HG3 : Hid _ := g3
    have HZX : Hid _ := zX
    have r0 := zr.cell 0
    have r1 := zr.cell 1
    have f0 := zr.frozen 0
    have f1 := zr.frozen 1
    have c0 := zc.cell 0
    have t0 := zt.cell 0
    have t1 := zt.cell 1
    simp at r0 r1 c0 t0 t1
    clear hcf zt1 zc1 zr1 g2 bb2 hb2 hbA hb1 zt zc zr hb3 g3 zX
    by_cases hc0 : c = 0
    · subst hc0
      rw [errV_zero]
      have hw0 := HE1.out HNR.out rfl
      have hEm : E ∈ ds := by
        have h := @badK_mem 1 ds (strB (parentOf p.data.toList).1)
        rw [hw0] at h
        exact h rfl
      obtain ⟨s1, s2, s3⟩ := HS1.out hEm
      have hcw := HCW.out W3 HB3.out hw0
      have hDm := HMEM.out rfl
      obtain ⟨rD, hrD, hrDD⟩ : ∃ r ∈ rs, r.D = D := by
        rw [← HDS.out] at hDm
        obtain ⟨r, hr, h⟩ := List.mem_map.1 hDm
        exact ⟨r, hr, h⟩
      have HSD : Hid (InoSmall D) := hrDD ▸ HSM.out rD hrD
      have HWD : Hid ((Lit.int .i64 D.ino).wf = true) := hrDD ▸ HWF.out rD hrD
      have hlk : 0 ≤ D.links ∧ D.links ≤ 1000 := hrDD ▸ HLK.out rD hrD
      have H1 : Hid _ := s1
      have H3 : Hid _ := s3
      clear hDm hrD hrDD hw0 hEm s1 s3
      go_wp2_with fail
      (with_reducible refine hcw.mono ?_)
      rintro e w4 ⟨v4, rfl, ta4⟩
      obtain ⟨a4, n4, c4, rs4, rfl, hT4, hR4, b4⟩ := ta4.read H1.out s2
      have zr4 := (Blk.keep HZR.out b4).alloc (.cells #[.slice a4 n4 c4, .int .i64 nx] 28)
      have zX4 := (Blk.keep HZX.out b4).alloc (.cells #[.slice a4 n4 c4, .int .i64 nx] 28)
      have zL := Blk.new w4 28 #[.slice a4 n4 c4, .int .i64 nx]
      have bL : Below w4.heap.size w4 (w4.alloc (.cells #[.slice a4 n4 c4, .int .i64 nx] 28)) := (Below.refl _ w4).alloc (Nat.le_refl _) _
      have hb4 := HB3.out.trans (b4.mono HB3.out.size)
      have hb4L := hb4.trans (bL.mono hb4.size)
      have g4 := (HG3.out.keep (by have := Blk.lt HZX.out; omega) b4).keep (by have := Blk.lt HZX.out; have := b4.size; omega) bL
      have hT4L := hT4 _ bL
      have hXl : X < w4.heap.size := (Blk.keep HZX.out b4).lt
      obtain ⟨LB, hLB⟩ : ∃ X, w4.heap.size = X := ⟨_, rfl⟩
      obtain ⟨W4, hW4⟩ : ∃ W, w4.alloc (.cells #[.slice a4 n4 c4, .int .i64 nx] 28) = W := ⟨_, rfl⟩
      rw [hW4] at zr4 zX4 zL hb4L g4 hT4L
      rw [hLB] at zL hXl
      have zX5 := zX4.set 2 (.int .i64 (D.links - 1))
      have zr5 := zr4.other (B' := X) (by omega) 2 (.int .i64 (D.links - 1))
      have zL5 := zL.other (B' := X) (by omega) 2 (.int .i64 (D.links - 1))
      have hk5 : KpT W4 (W4.setCell ⟨X, 2, none⟩ (.int .i64 (D.links - 1))) [5, 89, 75] := KpT.grown (gr_setC W4 X 2 _) zX4 (by decide)
      have hb5 := hb4L.setCell (p := ⟨X, 2, none⟩) (show w.heap.size ≤ X by omega) (.int .i64 (D.links - 1))
      obtain ⟨rs5, hT5, hR5⟩ := ta4.setX (X := X) (j := 2) (u := .int .i64 (D.links - 1)) H1.out s2 hR4 bL (by have := Blk.lt HZX.out; omega)
      rw [hW4] at hT5
      have g5 := inoG_kp g4 hk5
      have xx2 := zX4.cell 2
      have fx2 := zX4.frozen 2
      have xx0 := zX4.cell 0
      simp at xx2 xx0
      have hsub : IntKind.i64.wrap (D.links - 1) = D.links - 1 := wrap_small' (by omega) (by omega)
      obtain ⟨W5, hW5⟩ : ∃ W, W4.setCell ⟨X, 2, none⟩ (.int .i64 (D.links - 1)) = W := ⟨_, rfl⟩
      rw [hW5] at zX5 zr5 zL5 hb5 hT5 g5
      obtain ⟨x0, x1, x2, x3, x4, x5⟩ := zX5.six
      have t0 := zL5.cell 0
      have t1 := zL5.cell 1
      simp at t0 t1
      have HZR5 : Hid _ := zr5
      have HB5 : Hid _ := hb5
      have HT5 : Hid _ := hT5
      have HG5 : Hid _ := g5
      have HR4 : Hid _ := hR5
      have HW4 : Hid (∀ r ∈ rs5, (Lit.int .i64 r.D.ino).wf = true) := fun r hr => H3.out r.D (by rw [← hR5]; exact List.mem_map_of_mem hr)
      clear hcw hT4 hT4L b4 zr4 zX4 zL bL hb4 hb4L g4 zX5 zr5 zL5 hk5 hb5 hT5 g5 ta4 hR4 hR5
      by_cases hl0 : D.links - 1 = 0
      · have hlb : (D.links - 1 == 0) = true := by simp [hl0]
        have HTd : Hid (dropD D1 D.ino = TT) := by show _ = _; rw [← HTT.out, if_pos hl0]
        have hcI := dropI a4 n4 c4 nx D.ino rs5 W5 HT5.out.len HT5.out.n HWD.out HW4.out HT5.out.small HT5.out.rd
        clear hl0
        go_wp2_with fail
        (with_reducible refine hcI.mono ?_)
        intro e w6 hp6
        obtain ⟨v6, rfl, ht6⟩ := hp6.tab
        rw [dropD_eq, HR4.out, HTd.out] at ht6
        have ht6' := ht6
        obtain ⟨ra, rc, js, rfl, _, b6⟩ := ht6'
        obtain ⟨rn, hrn⟩ : ∃ rn, js.length = rn := ⟨_, rfl⟩
        rw [hrn] at ht6 ⊢
        have HFIN : Hid (EMeth w nx TT 0 (.returned (.tuple #[.agg #[.slice ra rn rc, .int .i64 nx], .nilIface])) ((w6.setCell ⟨w.heap.size + 1 + 1, 0, none⟩ (.slice ra rn rc)).setCell ⟨w.heap.size + 1 + 1, 1, none⟩ (.int .i64 nx))) := eMeth_yes ht6 HB5.out (by omega) HZR5.out
        have zr6 := Blk.keep HZR5.out b6
        have r0 := zr6.cell 0
        have r1 := zr6.cell 1
        have f0 := zr6.frozen 0
        have f1 := zr6.frozen 1
        simp at r0 r1
        have zf := blk2 zr6 (.slice ra rn rc) (.int .i64 nx)
        have dd0 := zf.cell 0
        have dd1 := zf.cell 1
        simp at dd0 dd1
        clear hcI hp6 ht6 zf zr6 b6 x0 x1 x2 x3 x4 x5 t0 t1 hrn
        go_wp2
        refine bodyPost_ret (v := .tuple #[.agg #[.slice ra rn rc, .int .i64 nx], .nilIface]) (by simp [results, Tryz.f171, go_sem, dd0, dd1]) rfl ?_
        exact HFIN.out
      · have hlb : (D.links - 1 == 0) = false := by simpa using hl0
        have HTd : Hid (setD D1 { D with links := D.links - 1 } = TT) := by show _ = _; rw [← HTT.out, if_neg hl0]
        have hrd5 : InoRd W5 { D with links := D.links - 1 } b1 b2 b3 := InoG.rds (B := 0) (T := W5.heap.size) (c1 := d1) (c2 := d2) (c3 := d3) (inoG_links (D.links - 1) HG5.out)
        have hsx : InoSmall { D with links := D.links - 1 } := ⟨HSD.out.data, HSD.out.ents, HSD.out.attrs, HSD.out.entsz, HSD.out.attrsz⟩
        have hcI := setI a4 n4 c4 nx rs5 { D with links := D.links - 1 } b1 b2 b3 d1 d2 d3 W5 HT5.out.len HT5.out.n HWD.out HW4.out HT5.out.small hsx HT5.out.rd hrd5
        dsimp only at hcI
        clear hl0 hrd5 hsx
        go_wp2_with fail
        (with_reducible refine hcI.mono ?_)
        intro e w6 hp6
        obtain ⟨v6, rfl, ht6⟩ := hp6.tab
        rw [setD_eq, HR4.out] at ht6
        dsimp only at ht6
        rw [HTd.out] at ht6
        have ht6' := ht6
        obtain ⟨ra, rc, js, rfl, _, b6⟩ := ht6'
        obtain ⟨rn, hrn⟩ : ∃ rn, js.length = rn := ⟨_, rfl⟩
        rw [hrn] at ht6 ⊢
        have HFIN : Hid (EMeth w nx TT 0 (.returned (.tuple #[.agg #[.slice ra rn rc, .int .i64 nx], .nilIface])) ((w6.setCell ⟨w.heap.size + 1 + 1, 0, none⟩ (.slice ra rn rc)).setCell ⟨w.heap.size + 1 + 1, 1, none⟩ (.int .i64 nx))) := eMeth_yes ht6 HB5.out (by omega) HZR5.out
        have zr6 := Blk.keep HZR5.out b6
        have r0 := zr6.cell 0
        have r1 := zr6.cell 1
        have f0 := zr6.frozen 0
        have f1 := zr6.frozen 1
        simp at r0 r1
        have zf := blk2 zr6 (.slice ra rn rc) (.int .i64 nx)
        have dd0 := zf.cell 0
        have dd1 := zf.cell 1
        simp at dd0 dd1
        clear hcI hp6 ht6 zf zr6 b6 x0 x1 x2 x3 x4 x5 t0 t1 hrn
        go_wp2
        refine bodyPost_ret (v := .tuple #[.agg #[.slice ra rn rc, .int .i64 nx], .nilIface]) (by simp [results, Tryz.f171, go_sem, dd0, dd1]) rfl ?_
        exact HFIN.out
    · have hend : Hid (EMeth w nx TT c (.returned (.tuple #[.agg #[.slice none 0 0, .int .i64 0], .iface 155 (.int .i64 c)])) ((W3.setCell ⟨w.heap.size + 1 + 1, 0, none⟩ (.slice none 0 0)).setCell ⟨w.heap.size + 1 + 1, 1, none⟩ (.int .i64 0))) := eMeth_no hc0 ((HB3.out.setCell (p := ⟨w.heap.size + 1 + 1, 0, none⟩) (by show _ ≤ w.heap.size + 1 + 1; omega) _).setCell (p := ⟨w.heap.size + 1 + 1, 1, none⟩) (by show _ ≤ w.heap.size + 1 + 1; omega) _)
      rw [errV_some hc0]
      have zf := blk2 HZR.out (.slice none 0 0) (.int .i64 0)
      have dd0 := zf.cell 0
      have dd1 := zf.cell 1
      simp at dd0 dd1
      clear hc0 zf
      go_wp2
      refine bodyPost_ret (v := .tuple #[.agg #[.slice none 0 0, .int .i64 0], .iface 155 (.int .i64 c)]) (by simp [results, Tryz.f171, go_sem, dd0, dd1]) rfl ?_
      exact hend.out
end

section
open Go.RowKit
theorem idx_unlink (w : World) : (Instr.index 138 (.agg #[.func (.func 167) #[] #[], .func (.func 168) #[] #[], .func (.func 169) #[] #[], .func (.func 170) #[] #[], .func (.func 171) #[] #[], .func (.func 172) #[] #[], .func (.func 173) #[] #[], .func (.func 174) #[] #[], .func (.func 175) #[] #[]]) (.int .i64 4)).run Tryz.prog w = .ok (.func (.func 171) #[] #[]) w := by kernel_rfl
set_option maxRecDepth 100000 in
set_option maxHeartbeats 4000000 in
theorem changed_unlink (a : Option Addr) (n cap : Nat) (nx : Int) (rs : List InoR) (p q : ByteArray) (k : Int) (da : Option Addr) (dn dc : Nat) (an av : ByteArray) (w : World) (ht : TR w a n rs) (hwf : ∀ r ∈ rs, (Lit.int .i64 r.D.ino).wf = true) (het : EtCell w) (nx' : Int) (ds' : List InoD) (c : Int) (N : Int) (D : List InoD) (C : Int)
    (h1 : treeD nx (rs.map InoR.D) = false → N = nx ∧ D = rs.map InoR.D ∧ C = 1) (h2 : treeD nx (rs.map InoR.D) = true → c ≠ 0 → N = nx ∧ D = rs.map InoR.D ∧ C = c) (h3 : treeD nx (rs.map InoR.D) = true → c = 0 → N = nx' ∧ D = ds' ∧ C = 0)
    (hm : treeD nx (rs.map InoR.D) = true → ∀ W : World, Below w.heap.size w W → Calls Tryz.prog 171 #[.agg #[.slice a n cap, .int .i64 nx], .agg #[.string p, .string q, .int .i64 k, .slice da dn dc, .string an, .string av]] W fun e w' => EMeth W nx' ds' c e w') :
    Calls Tryz.prog 61 #[.agg #[.slice a n cap, .int .i64 nx], .int .i64 4, .agg #[.string p, .string q, .int .i64 k, .slice da dn dc, .string an, .string av]] w fun e w' => TabC w N D C e w' := by
  have B0 : Below w.heap.size w (((w.alloc (.cells #[.slice a n cap, .int .i64 nx] 28)).alloc (.cells #[.string p, .string q, .int .i64 k, .slice da dn dc, .string an, .string av] 77)).alloc (.cells #[.slice none 0 0, .int .i64 0] 28)) := (((Below.refl _ w).alloc (Nat.le_refl _) _).alloc (by simp) _).alloc (by simp; omega) _
  have zT := ((Blk.new w 28 #[.slice a n cap, .int .i64 nx]).alloc (.cells #[.string p, .string q, .int .i64 k, .slice da dn dc, .string an, .string av] 77)).alloc (.cells #[.slice none 0 0, .int .i64 0] 28)
  have zC := (Blk.new (w.alloc (.cells #[.slice a n cap, .int .i64 nx] 28)) 77 #[.string p, .string q, .int .i64 k, .slice da dn dc, .string an, .string av]).alloc (.cells #[.slice none 0 0, .int .i64 0] 28)
  have zR := Blk.new ((w.alloc (.cells #[.slice a n cap, .int .i64 nx] 28)).alloc (.cells #[.string p, .string q, .int .i64 k, .slice da dn dc, .string an, .string av] 77)) 28 #[.slice none 0 0, .int .i64 0]
  simp only [World.size_alloc] at zC zR
  have hcT := treeI a n cap nx rs _ (ht.keep B0) hwf
  go_enter Tryz.func61, Tryz.ntmps61
  go_wp2_with fail
  obtain ⟨W0, hW0⟩ : ∃ W, (((w.alloc (.cells #[.slice a n cap, .int .i64 nx] 28)).alloc (.cells #[.string p, .string q, .int .i64 k, .slice da dn dc, .string an, .string av] 77)).alloc (.cells #[.slice none 0 0, .int .i64 0] 28)) = W := ⟨_, rfl⟩
  rw [hW0] at B0 zT zC zR hcT ⊢
  clear hW0
  (with_reducible refine hcT.mono ?_)
  rintro e w1 ⟨rfl, b1⟩
  clear hcT
  have hb1 := B0.trans (b1.mono B0.size)
  have zt := zT.keep b1
  have zc := zC.keep b1
  have zr := zR.keep b1
  have HT1 : Hid _ := ht.keep hb1
  have HE1 : Hid _ := het.keep hb1
  clear zT zC zR b1 ht het B0
  have t0 := zt.cell 0
  have t1 := zt.cell 1
  simp at t0 t1
  cases htr : treeD nx (rs.map InoR.D) with
  | false =>
    obtain ⟨rfl, rfl, rfl⟩ := h1 htr
    have hcC := copyTab_any a n cap N rs w1 HT1.out.len HT1.out.n HT1.out.small HT1.out.rd
    have HB1 : Hid _ := hb1
    have HZR : Hid _ := zr
    clear h1 h2 h3 hm htr hb1
    go_wp2_with fail
    (with_reducible refine hcC.mono ?_)
    intro e w2 hp2
    obtain ⟨g, rfl, b2, hfin⟩ := copyT hp2 HB1.out (by omega) HZR.out
    have zr2 := Blk.keep HZR.out b2
    have r0 := zr2.cell 0
    have r1 := zr2.cell 1
    have f0 := zr2.frozen 0
    have f1 := zr2.frozen 1
    simp at r0 r1
    have HFIN : Hid _ := hfin w2 (Below.refl _ _) 1
    have zf := blk2 zr2 (.slice (some ⟨g, 0, none⟩) n n) (.int .i64 N)
    have dd0 := zf.cell 0
    have dd1 := zf.cell 1
    simp at dd0 dd1
    clear hcC hp2 hfin zr2 zt zc zr t0 t1 zf
    go_wp2
    refine bodyPost_ret (v := .tuple #[.agg #[.slice (some ⟨g, 0, none⟩) n n, .int .i64 N], .int .i64 1]) (by simp [results, Tryz.f61, go_sem, dd0, dd1]) rfl ?_
    exact HFIN.out
  | true =>
    have hmm := hm htr
    have c0 := zc.cell 0
    have c1 := zc.cell 1
    have c2 := zc.cell 2
    have c3 := zc.cell 3
    have c4 := zc.cell 4
    have c5 := zc.cell 5
    simp at c0 c1 c2 c3 c4 c5
    have HB1 : Hid _ := hb1
    have HZR : Hid _ := zr
    have HZT : Hid _ := zt
    have HZC : Hid _ := zc
    have HMM : Hid _ := hmm
    have HH2 : Hid _ := h2 htr
    have HH3 : Hid _ := h3 htr
    have cC := changesI w1.drew
    have hsz : w.heap.size + 1 + 1 < w1.heap.size := zr.lt
    have hK : Hid (∀ W : World, Below w1.heap.size w1 W → W.cell? ⟨w.heap.size, 0, none⟩ = some (.slice a n cap) ∧ W.cell? ⟨w.heap.size, 1, none⟩ = some (.int .i64 nx) ∧ W.cell? ⟨w.heap.size + 1, 0, none⟩ = some (.string p) ∧ W.cell? ⟨w.heap.size + 1, 1, none⟩ = some (.string q) ∧ W.cell? ⟨w.heap.size + 1, 2, none⟩ = some (.int .i64 k) ∧ W.cell? ⟨w.heap.size + 1, 3, none⟩ = some (.slice da dn dc) ∧ W.cell? ⟨w.heap.size + 1, 4, none⟩ = some (.string an) ∧ W.cell? ⟨w.heap.size + 1, 5, none⟩ = some (.string av)) := fun W hW => by
      have z1 := Blk.keep HZT.out hW
      have z2 := Blk.keep HZC.out hW
      exact ⟨z1.cell 0, z1.cell 1, z2.cell 0, z2.cell 1, z2.cell 2, z2.cell 3, z2.cell 4, z2.cell 5⟩
    clear h1 h2 h3 hm htr hmm zt zc zr hb1
    go_upto_region 3 with fail
    have n0 : w1.heap.size ≠ w.heap.size := by omega
    have n1 : w1.heap.size ≠ w.heap.size + 1 := by omega
    have cC2 := changesI (w1.alloc (.cells #[.slice none 0 0, .int .i64 0] 28)).drew
    have zW1 := Blk.new w1 28 #[.slice none 0 0, .int .i64 0]
    have hix := idx_unlink
    go_cut [8, 9] from 8 to 31 (fun bx er wx => ∃ (A : Nat) (ra : Option Addr) (rn rc : Nat) (rx : Int), bx = .pointer (some ⟨A, 0, none⟩) ∧ er = errV c ∧ Hid (CHR w1 nx' ds' c A (.slice ra rn rc) (.int .i64 rx) wx))
    case first =>
      go_region_held3 (fun W : World => W.cell? ⟨w.heap.size, 0, none⟩ = some (.slice a n cap) ∧ W.cell? ⟨w.heap.size, 1, none⟩ = some (.int .i64 nx) ∧ W.cell? ⟨w.heap.size + 1, 0, none⟩ = some (.string p) ∧ W.cell? ⟨w.heap.size + 1, 1, none⟩ = some (.string q) ∧ W.cell? ⟨w.heap.size + 1, 2, none⟩ = some (.int .i64 k) ∧ W.cell? ⟨w.heap.size + 1, 3, none⟩ = some (.slice da dn dc) ∧ W.cell? ⟨w.heap.size + 1, 4, none⟩ = some (.string an) ∧ W.cell? ⟨w.heap.size + 1, 5, none⟩ = some (.string av)) (go_keep) (first
        | (go_at_call 111; (with_reducible refine cC.mono ?_); rintro e w10 ⟨rfl, b10⟩; have B10 : Below w1.heap.size w1 w10 := (Below.refl _ w1).drew.trans b10; have K10 := hK.out w10 B10; obtain ⟨p0, p1, p2, p3, p4, p5, p6, p7⟩ := K10; have n2 : w10.heap.size ≠ w.heap.size := (by have := B10.size; omega); have n3 : w10.heap.size ≠ w.heap.size + 1 := (by have := B10.size; omega); have hm10 := HMM.out w10 (HB1.out.trans (B10.mono HB1.out.size)); have hm10a := HMM.out (w10.alloc (.cells #[.slice none 0 0, .int .i64 0] 28)) ((HB1.out.trans (B10.mono HB1.out.size)).alloc (by have := HB1.out.size; have := B10.size; omega) _))
        | (go_at_call 111; (with_reducible refine cC2.mono ?_); rintro e w11 ⟨rfl, b11⟩; have B11 : Below w1.heap.size w1 w11 := ((Below.refl _ w1).alloc (Nat.le_refl _) _).drew.trans (b11.mono (by show _ ≤ (w1.alloc _).heap.size; simp)); have K11 := hK.out w11 B11; obtain ⟨p0, p1, p2, p3, p4, p5, p6, p7⟩ := K11; have z11 : Blk w11 w1.heap.size 28 #[.slice none 0 0, .int .i64 0] := Blk.keep (Blk.drew zW1) b11; have hm11 := HMM.out w11 (HB1.out.trans (B11.mono HB1.out.size)))
        | (go_at_call 171; (with_reducible refine hm10.mono ?_); rintro e w12 ⟨ra, rn, rc, rx, rfl, b12, t12⟩; have B12 : Below w1.heap.size w1 w12 := B10.trans (b12.mono B10.size); have K12 := hK.out w12 B12; obtain ⟨q0, q1, q2, q3, q4, q5, q6, q7⟩ := K12)
        | (go_at_call 171; (with_reducible refine hm10a.mono ?_); rintro e w13 ⟨ra, rn, rc, rx, rfl, b13, t13⟩; have B13 : Below w1.heap.size w1 w13 := (B10.alloc B10.size _).trans (b13.mono (by have := B10.size; simp; omega)); have z13 := (Blk.new w10 28 #[.slice none 0 0, .int .i64 0]).keep b13; have u0 := z13.cell 0; have u1 := z13.cell 1; have x0 := z13.frozen 0; have x1 := z13.frozen 1; simp at u0 u1; have K13 := hK.out w13 B13; obtain ⟨q0, q1, q2, q3, q4, q5, q6, q7⟩ := K13)
        | (go_at_call 171; (with_reducible refine hm11.mono ?_); rintro e w14 ⟨ra, rn, rc, rx, rfl, b14, t14⟩; have B14 : Below w1.heap.size w1 w14 := B11.trans (b14.mono B11.size); have z14 := z11.keep b14; have u0 := z14.cell 0; have u1 := z14.cell 1; have x0 := z14.frozen 0; have x1 := z14.frozen 1; simp at u0 u1; have K14 := hK.out w14 B14; obtain ⟨q0, q1, q2, q3, q4, q5, q6, q7⟩ := K14))
      all_goals (go_wp2_with fail; go_meet)
      all_goals first
        | (have h := chr_new B12 b12 B10.size t12; exact ⟨_, _, _, _, _, rfl, rfl, h⟩)
        | (have h := chr_old B13 B10.size z13 (by simp) t13; exact ⟨_, _, _, _, _, rfl, rfl, h⟩)
        | (have h := chr_old B14 (Nat.le_refl _) z14 (Blk.lt z11) t14; exact ⟨_, _, _, _, _, rfl, rfl, h⟩)
        | fail
    case rest =>
      obtain ⟨A, ra, rn, rc, rx, rfl, rfl, hR⟩ := hcut
      obtain ⟨Wc, hwc⟩ : ∃ W, W = wc := ⟨_, rfl⟩
      subst hwc
      clear t0 t1 c0 c1 c2 c3 c4 c5 cC cC2 zW1 hK HMM n0 n1
      have zt := Blk.keep HZT.out hR.out.b
      have zr := Blk.keep HZR.out hR.out.b
      have hbc := HB1.out.trans (hR.out.b.mono HB1.out.size)
      have t0 := zt.cell 0
      have t1 := zt.cell 1
      simp at t0 t1
      by_cases hc0 : c = 0
      · obtain ⟨rfl, rfl, rfl⟩ := HH3.out hc0
        subst hc0
        rw [errV_zero]
        have HFIN : Hid _ := methT (hR.out.tab rfl) HB1.out (by omega) HZR.out Wc (Below.refl _ _)
        have a0 := hR.out.z.cell 0
        have a1 := hR.out.z.cell 1
        have r0 := zr.cell 0
        have r1 := zr.cell 1
        have f0 := zr.frozen 0
        have f1 := zr.frozen 1
        simp at a0 a1 r0 r1
        have zf := blk2 zr (.slice ra rn rc) (.int .i64 rx)
        have dd0 := zf.cell 0
        have dd1 := zf.cell 1
        simp at dd0 dd1
        clear zt zr zf hbc HH2 HH3 HT1 HE1 t0 t1
        go_wp2
        refine bodyPost_ret (v := .tuple #[.agg #[.slice ra rn rc, .int .i64 rx], .int .i64 0]) (by simp [results, Tryz.f61, go_sem, dd0, dd1]) rfl ?_
        exact HFIN.out
      · obtain ⟨rfl, rfl, rfl⟩ := HH2.out hc0
        rw [errV_some hc0]
        have hTc := HT1.out.keep hR.out.b
        have hEc := EtCell.keep HE1.out hR.out.b
        have hcC := copyTab_any a n cap N rs Wc hTc.len hTc.n hTc.small hTc.rd
        have HZ : Hid _ := zr
        have HBC : Hid _ := hbc
        have HEC : Hid _ := hEc
        have HC0 : Hid _ := hc0
        clear zt zr hbc HH2 HH3 HT1 HE1 hTc hEc hc0
        go_wp2_with fail
        (with_reducible refine hcC.mono ?_)
        intro e w2 hp2
        obtain ⟨g, rfl, b2, hfin⟩ := copyT hp2 HBC.out (by omega) HZ.out
        have hcO := codeOfI C w2 (EtCell.keep HEC.out b2)
        rw [errV_some HC0.out] at hcO
        clear hcC hp2 t0 t1
        go_wp2_with fail
        (with_reducible refine hcO.mono ?_)
        rintro e w3 ⟨rfl, b3⟩
        have zr3 := (Blk.keep HZ.out b2).keep b3
        have r0 := zr3.cell 0
        have r1 := zr3.cell 1
        have f0 := zr3.frozen 0
        have f1 := zr3.frozen 1
        simp at r0 r1
        have HFIN : Hid _ := hfin w3 b3 C
        have zf := blk2 zr3 (.slice (some ⟨g, 0, none⟩) n n) (.int .i64 N)
        have dd0 := zf.cell 0
        have dd1 := zf.cell 1
        simp at dd0 dd1
        clear hcO hfin zr3 zf
        go_wp2
        refine bodyPost_ret (v := .tuple #[.agg #[.slice (some ⟨g, 0, none⟩) n n, .int .i64 N], .int .i64 C]) (by simp [results, Tryz.f61, go_sem, dd0, dd1]) rfl ?_
        exact HFIN.out
end

section
open Go.RowKit
theorem good_dropLast {zs : List Str} (h : good zs = true) : good zs.dropLast = true := good_prefix h (List.dropLast_prefix zs)
theorem split_parent {s : Str} {zs : List Str} (h : splitOf s = some zs) (hne : zs ≠ []) : splitOf (joinOf zs.dropLast) = some zs.dropLast := by
  have hg : good zs = true := by
    rcases split_cases h with ⟨_, rfl⟩ | ⟨r, _, _, hg, rfl⟩
    · exact absurd rfl hne
    · exact hg
  refine split_join ?_
  unfold joinOf
  by_cases hd : zs.dropLast = []
  · rw [if_pos hd]
    simp
  · rw [if_neg hd, if_pos (good_dropLast hg)]
    cases hz : zs.dropLast with
    | nil => exact absurd hz hd
    | cons z l => simp
theorem walkD_app {ds : List InoD} {nm : ByteArray} : ∀ (l : List ByteArray) (x : Int), (walkD ds x (l ++ [nm])).2 = 0 → (walkD ds x l).2 = 0 ∧ ∃ E, look ds (walkD ds x l).1 = some E ∧ E.kind = 2
  | [], x, h => by
    refine ⟨rfl, ?_⟩
    rw [List.nil_append] at h
    unfold walkD at h
    cases hl : look ds x with
    | none => rw [hl] at h; simp at h
    | some D =>
      rw [hl] at h
      dsimp only at h
      by_cases hk : D.kind = 2
      · exact ⟨D, hl, hk⟩
      · rw [if_neg hk] at h
        simp at h
  | z :: l, x, h => by
    rw [List.cons_append] at h
    unfold walkD at h ⊢
    cases hl : look ds x with
    | none => rw [hl] at h; simp at h
    | some D =>
      rw [hl] at h
      dsimp only at h ⊢
      by_cases hk : D.kind = 2
      · rw [if_pos hk] at h ⊢
        by_cases he : entOf z D.ents = 0
        · rw [if_pos he] at h
          simp at h
        · rw [if_neg he] at h ⊢
          exact walkD_app l _ h
      · rw [if_neg hk] at h
        simp at h
theorem stat_walk {ds : List InoD} {s : ByteArray} (h : (statD ds s).2 = 0) : (walkP ds s).2 = 0 := by
  unfold statD at h
  split at h
  · assumption
  · exact h
/-- Where a path leads somewhere, a directory is above it. -/
theorem parent_stat {ds : List InoD} {s : ByteArray} (h : (walkP ds s).2 = 0) (hp : (parentOf s.data.toList).2.2 = true) : ∃ E, statD ds (strB (parentOf s.data.toList).1) = (E, 0) ∧ E.kind = 2 := by
  cases hs : splitOf s.data.toList with
  | none => rw [walkP_none hs] at h; simp at h
  | some zs =>
    have hne : zs ≠ [] := by
      rintro rfl
      unfold parentOf at hp
      rw [hs] at hp
      simp at hp
    have hpa : parentOf s.data.toList = (joinOf zs.dropLast, zs.getLastD [], true) := by
      unfold parentOf
      rw [hs]
      dsimp only
      rw [if_neg hne]
    rw [hpa]
    dsimp only
    have hw : walkP ds s = walkD ds 1 (zs.map strB) := by unfold walkP; rw [hs]
    rw [hw, show zs = zs.dropLast ++ [zs.getLast hne] from (List.dropLast_concat_getLast hne).symm, List.map_append, List.map_cons, List.map_nil] at h
    obtain ⟨h1, E, h2, h3⟩ := walkD_app _ _ h
    have hq : walkP ds (strB (joinOf zs.dropLast)) = walkD ds 1 (zs.dropLast.map strB) := by
      unfold walkP
      rw [show (strB (joinOf zs.dropLast)).data.toList = joinOf zs.dropLast from rfl, split_parent hs hne]
    refine ⟨E, ?_, h3⟩
    unfold statD
    rw [hq, if_pos h1, h2]
theorem parent_bad {ds : List InoD} {s : ByteArray} (h : (walkP ds s).2 = 0) (hp : (parentOf s.data.toList).2.2 = true) : badK 1 ds (strB (parentOf s.data.toList).1) = ((statD ds (strB (parentOf s.data.toList).1)).1, 0) := by
  obtain ⟨E, h1, h2⟩ := parent_stat h hp
  unfold badK
  rw [h1]
  dsimp only
  rw [if_neg (by omega)]
theorem parent_size (s : ByteArray) : (strB (parentOf s.data.toList).1).size ≤ s.size := by
  have e : ∀ l : Str, (strB l).size = l.length := fun l => by show (l.toArray).size = _; simp
  rw [e]
  have hl : s.size = s.data.toList.length := by show s.data.size = _; simp
  rw [hl]
  cases hs : splitOf s.data.toList with
  | none => unfold parentOf; rw [hs]; simp
  | some zs =>
    unfold parentOf
    rw [hs]
    dsimp only
    by_cases hne : zs = []
    · rw [if_pos hne]
      simp
    · rw [if_neg hne]
      dsimp only
      have hj := join_split hs
      rw [← hj]
      have hg : good zs = true := by
        rcases split_cases hs with ⟨_, rfl⟩ | ⟨r, _, _, hg, rfl⟩
        · exact absurd rfl hne
        · exact hg
      have e2 : zs = zs.dropLast ++ [zs.getLast hne] := (List.dropLast_concat_getLast hne).symm
      have e3 : joinOf zs = zs.flatMap (fun p => 47 :: p) := by unfold joinOf; rw [if_neg hne, if_pos hg]
      rw [e3]
      unfold joinOf
      by_cases hd : zs.dropLast = []
      · rw [if_pos hd]
        rw [e2, hd]
        simp
      · rw [if_neg hd, if_pos (good_dropLast hg)]
        conv => rhs; rw [e2, List.flatMap_append]
        simp
theorem tree_more {nx : Int} {ds : List InoD} (h : treeD nx ds = true) : (∀ D ∈ ds, D.ents.length ≤ 100) ∧ (∀ D ∈ ds, 0 ≤ D.links ∧ D.links ≤ 1000) ∧ ds.length ≤ 30 := by
  have h1 := tabD_ok (treeD_parts h).1
  refine ⟨fun D hD => ?_, fun D hD => ?_, h1.2.1⟩
  · have := (entsOk_at (ok_parts (h1.2.2.2.2.1 D hD).1).2.2.1).1
    omega
  · have h2 := (h1.2.2.2.2.1 D hD).1
    unfold inoOk at h2
    simp only [Bool.and_eq_true, decide_eq_true_eq] at h2
    exact h2.1.1.1.1.1.2
theorem file_stat {ds : List InoD} {s : ByteArray} (h : (fileD ds s).2 = 0) : fileD ds s = statD ds s := by
  unfold fileD at h ⊢
  split at h
  · simp at h
  · rename_i hc
    rw [if_neg hc]
theorem unlinkI (a : Option Addr) (n cap : Nat) (nx : Int) (rs : List InoR) (s : ByteArray) (w : World) (ht : TR w a n rs) (hwf : ∀ r ∈ rs, (Lit.int .i64 r.D.ino).wf = true) (het : EtCell w) (hs : s.size ≤ 4000000) :
    Calls Tryz.prog 30 #[.agg #[.slice a n cap, .int .i64 nx], .string s] w fun e w' => TabC w nx (unlinkD nx (rs.map InoR.D) s).1 (unlinkD nx (rs.map InoR.D) s).2 e w' := by
  refine wrap_Unlink a n cap nx s w nx _ _ (fun W hW => ?_)
  obtain ⟨E, hEE⟩ : ∃ E, (statD (rs.map InoR.D) (strB (parentOf s.data.toList).1)).1 = E := ⟨_, rfl⟩
  have hb : treeD nx (rs.map InoR.D) = true → badK 2 (rs.map InoR.D) s = fileD (rs.map InoR.D) s := fun h => badK_file (fun D hD => by obtain ⟨r, hr, rfl⟩ := List.mem_map.1 hD; exact (tree_facts h).1 r hr) s
  refine changed_unlink a n cap nx rs s ⟨#[]⟩ 0 none 0 0 ⟨#[]⟩ ⟨#[]⟩ W (ht.keep hW) hwf (het.keep hW) nx (unlinkT (rs.map InoR.D) s E) (unlinkC (rs.map InoR.D) s) nx _ _ ?_ ?_ ?_ ?_
  · intro h
    unfold unlinkD
    rw [if_pos (.inl h)]
    exact ⟨rfl, rfl, rfl⟩
  · intro h hc
    unfold unlinkC notR at hc
    unfold unlinkD unlinkC notR
    rw [hb h] at hc ⊢
    cases hp : (parentOf s.data.toList).2.2 with
    | false => rw [if_pos (.inr rfl), if_pos rfl]; exact ⟨rfl, rfl, rfl⟩
    | true =>
      rw [hp, if_neg (by decide)] at hc
      rw [if_neg (by simp [h]), if_pos hc, if_neg (by decide)]
      exact ⟨rfl, rfl, rfl⟩
  · intro h hc
    unfold unlinkC notR at hc
    unfold unlinkD unlinkT
    rw [hb h] at hc ⊢
    cases hp : (parentOf s.data.toList).2.2 with
    | false => rw [hp, if_pos rfl] at hc; exact absurd hc (by decide)
    | true =>
      rw [hp, if_neg (by decide)] at hc
      rw [if_neg (by simp [h]), if_neg (by simp [hc])]
      unfold dropP
      rw [hEE]
      by_cases hl : (fileD (rs.map InoR.D) s).1.links = 1
      · rw [if_pos hl, if_pos (by omega)]
        exact ⟨rfl, rfl, rfl⟩
      · rw [if_neg hl, if_neg (by omega)]
        exact ⟨rfl, rfl, rfl⟩
  · intro h W' hW'
    obtain ⟨f1, f2, f3⟩ := tree_facts h
    obtain ⟨f4, f5, f6⟩ := tree_more h
    have hn : n ≤ 100 := by rw [List.length_map, ht.len] at f6; omega
    refine unlinkM a n cap nx rs s ⟨#[]⟩ 0 none 0 0 ⟨#[]⟩ ⟨#[]⟩ W' ((ht.keep hW).keep hW') f1 f2 f3 (fun r hr => f4 r.D (List.mem_map_of_mem hr)) (fun r hr => f5 r.D (List.mem_map_of_mem hr)) hn hs (Nat.le_trans (parent_size s) hs) E (fun hnr hc0 => ?_)
    rw [hb h] at hc0
    have hw : (walkP (rs.map InoR.D) s).2 = 0 := stat_walk (by rw [← file_stat hc0]; exact hc0)
    rw [parent_bad hw hnr, hEE]
end

section
open Go.RowKit
theorem spot_dir {ds : List InoD} (hK : ∀ D ∈ ds, D.kind = 1 ∨ D.kind = 2) (hI : ∀ D ∈ ds, D.ino ≠ 0) (s : ByteArray) : spotD ds s 0 = if (dirFor ds s).2 ≠ 0 then (inoZ.D, ⟨#[]⟩, (dirFor ds s).2) else if 10 ≤ (dirFor ds s).1.ents.length then (inoZ.D, ⟨#[]⟩, 5) else ((dirFor ds s).1, strB (parentOf s.data.toList).2.1, 0) := by
  unfold spotD dirFor badK
  by_cases h1 : (parentOf s.data.toList).2.2 = false
  · simp [h1]
  · by_cases h2 : (statD ds (strB (parentOf s.data.toList).1)).2 = 0
    · have hm := stat_in h2
      have hi := hI _ hm
      rcases hK _ hm with h3 | h3
      · simp [h1, h2, h3]
      · by_cases h4 : entOf (strB (parentOf s.data.toList).2.1) (statD ds (strB (parentOf s.data.toList).1)).1.ents = 0
        · by_cases h5 : 10 ≤ (statD ds (strB (parentOf s.data.toList).1)).1.ents.length
          · simp [h1, h2, h3, h4, h5, hi]
          · simp [h1, h2, h3, h4, h5]
        · simp [h1, h2, h3, h4]
    · simp [h1, h2]
theorem make_no {nx : Int} {ds : List InoD} {s : ByteArray} {kd : Int} (h : treeD nx ds = true) (hK : ∀ D ∈ ds, D.kind = 1 ∨ D.kind = 2) (hI : ∀ D ∈ ds, D.ino ≠ 0) (hc : makeC nx ds s ≠ 0) : makeD nx ds s kd = (nx, ds, makeC nx ds s) := by
  unfold makeC at hc ⊢
  unfold makeD
  rw [spot_dir hK hI s]
  by_cases h0 : (dirFor ds s).2 = 0
  · by_cases h5 : 10 ≤ (dirFor ds s).1.ents.length
    · simp [h, h0, h5]
    · by_cases h6 : 30 ≤ ds.length ∨ 1000 ≤ nx
      · simp [h, h0, h5, h6]
      · exfalso
        apply hc
        simp only [not_or] at h6
        simp [h0, h5, h6.1, h6.2]
  · simp [h, h0]
theorem make_yes {nx : Int} {ds : List InoD} {s : ByteArray} {kd : Int} (h : treeD nx ds = true) (hK : ∀ D ∈ ds, D.kind = 1 ∨ D.kind = 2) (hI : ∀ D ∈ ds, D.ino ≠ 0) (hc : makeC nx ds s = 0) : makeD nx ds s kd = (nx + 1, makeT nx ds s kd, 0) := by
  unfold makeC at hc
  unfold makeD makeT
  rw [spot_dir hK hI s]
  by_cases h0 : (dirFor ds s).2 = 0
  · by_cases h5 : 10 ≤ (dirFor ds s).1.ents.length
    · simp [h0, h5] at hc
    · by_cases h6 : 30 ≤ ds.length ∨ 1000 ≤ nx
      · simp [h0, h5, h6] at hc
      · simp [h, h0, h5, h6]
  · simp [h0] at hc
theorem tree_ino {nx : Int} {ds : List InoD} (h : treeD nx ds = true) : ∀ D ∈ ds, D.ino ≠ 0 := fun D hD => by
  have h3 := ((tabD_ok (treeD_parts h).1).2.2.2.2.1 D hD).1
  unfold inoOk at h3
  simp only [Bool.and_eq_true, decide_eq_true_eq] at h3
  omega
theorem tree_kind {nx : Int} {rs : List InoR} (h : treeD nx (rs.map InoR.D) = true) : ∀ D ∈ rs.map InoR.D, D.kind = 1 ∨ D.kind = 2 := fun D hD => by
  obtain ⟨r, hr, rfl⟩ := List.mem_map.1 hD
  exact (tree_facts h).1 r hr
theorem makeDirI (a : Option Addr) (n cap : Nat) (nx : Int) (rs : List InoR) (s : ByteArray) (w : World) (ht : TR w a n rs) (hwf : ∀ r ∈ rs, (Lit.int .i64 r.D.ino).wf = true) (het : EtCell w) (hs : s.size ≤ 1048576) :
    Calls Tryz.prog 18 #[.agg #[.slice a n cap, .int .i64 nx], .string s] w fun e w' => TabC w (makeD nx (rs.map InoR.D) s 2).1 (makeD nx (rs.map InoR.D) s 2).2.1 (makeD nx (rs.map InoR.D) s 2).2.2 e w' := by
  refine wrap_MakeDir a n cap nx s w _ _ _ (fun W hW => ?_)
  refine changed_makeDir a n cap nx rs s ⟨#[]⟩ 0 none 0 0 ⟨#[]⟩ ⟨#[]⟩ W (ht.keep hW) hwf (het.keep hW) (nx + 1) (makeT nx (rs.map InoR.D) s 2) (makeC nx (rs.map InoR.D) s) _ _ _ ?_ ?_ ?_ ?_
  · intro h
    unfold makeD
    rw [h, if_pos rfl]
    exact ⟨rfl, rfl, rfl⟩
  · intro h hc
    rw [make_no h (tree_kind h) (tree_ino h) hc]
    exact ⟨rfl, rfl, rfl⟩
  · intro h hc
    rw [make_yes h (tree_kind h) (tree_ino h) hc]
    exact ⟨rfl, rfl, rfl⟩
  · intro h W' hW'
    exact makeDirM a n cap nx rs s ⟨#[]⟩ 0 none 0 0 ⟨#[]⟩ ⟨#[]⟩ W' ((ht.keep hW).keep hW') h hs (Nat.le_trans (parent_size s) hs) (by have := (parent_small s.data.toList).2; rw [strB_size]; omega)
theorem makeFileI (a : Option Addr) (n cap : Nat) (nx : Int) (rs : List InoR) (s : ByteArray) (w : World) (ht : TR w a n rs) (hwf : ∀ r ∈ rs, (Lit.int .i64 r.D.ino).wf = true) (het : EtCell w) (hs : s.size ≤ 1048576) :
    Calls Tryz.prog 23 #[.agg #[.slice a n cap, .int .i64 nx], .string s] w fun e w' => TabC w (makeD nx (rs.map InoR.D) s 1).1 (makeD nx (rs.map InoR.D) s 1).2.1 (makeD nx (rs.map InoR.D) s 1).2.2 e w' := by
  refine wrap_MakeFile a n cap nx s w _ _ _ (fun W hW => ?_)
  refine changed_makeFile a n cap nx rs s ⟨#[]⟩ 0 none 0 0 ⟨#[]⟩ ⟨#[]⟩ W (ht.keep hW) hwf (het.keep hW) (nx + 1) (makeT nx (rs.map InoR.D) s 1) (makeC nx (rs.map InoR.D) s) _ _ _ ?_ ?_ ?_ ?_
  · intro h
    unfold makeD
    rw [h, if_pos rfl]
    exact ⟨rfl, rfl, rfl⟩
  · intro h hc
    rw [make_no h (tree_kind h) (tree_ino h) hc]
    exact ⟨rfl, rfl, rfl⟩
  · intro h hc
    rw [make_yes h (tree_kind h) (tree_ino h) hc]
    exact ⟨rfl, rfl, rfl⟩
  · intro h W' hW'
    exact makeFileM a n cap nx rs s ⟨#[]⟩ 0 none 0 0 ⟨#[]⟩ ⟨#[]⟩ W' ((ht.keep hW).keep hW') h hs (Nat.le_trans (parent_size s) hs) (by have := (parent_small s.data.toList).2; rw [strB_size]; omega)
end

section
open Go.RowKit
theorem entOf_mem {nm : ByteArray} : ∀ {es : List (ByteArray × Int)}, entOf nm es ≠ 0 → (nm, entOf nm es) ∈ es
  | [], h => absurd rfl h
  | q :: es, h => by
    unfold entOf at h ⊢
    by_cases hq : q.1 = nm
    · rw [if_pos hq]
      rw [← hq]
      exact List.mem_cons_self ..
    · rw [if_neg hq] at h ⊢
      exact List.mem_cons_of_mem _ (entOf_mem h)
theorem entOf_cut {nm z : ByteArray} (h : z ≠ nm) : ∀ (es : List (ByteArray × Int)), entOf z (cutE es nm) = entOf z es
  | [] => rfl
  | q :: es => by
    have ih := entOf_cut h es
    unfold cutE at ih ⊢
    by_cases hq : q.1 = nm
    · rw [List.filter_cons_of_neg (by simp [hq]), ih]
      conv => rhs; unfold entOf
      rw [if_neg (by rw [hq]; exact Ne.symm h)]
    · rw [List.filter_cons_of_pos (by simp [hq])]
      conv => lhs; unfold entOf
      conv => rhs; unfold entOf
      rw [ih]
theorem walkD_step {ds : List InoD} {x : Int} {D : InoD} {z : ByteArray} (l : List ByteArray) (hl : look ds x = some D) (hk : D.kind = 2) (he : entOf z D.ents ≠ 0) : walkD ds x (z :: l) = walkD ds (entOf z D.ents) l := by
  conv => lhs; unfold walkD
  rw [hl]
  dsimp only
  rw [if_pos hk, if_neg he]
theorem walkD_two (ds : List InoD) : ∀ (l m : List ByteArray) (x : Int), (walkD ds x l).2 = 0 → walkD ds x (l ++ m) = walkD ds (walkD ds x l).1 m
  | [], m, x, _ => rfl
  | z :: l, m, x, h => by
    have hD : ∃ D, look ds x = some D ∧ D.kind = 2 ∧ entOf z D.ents ≠ 0 := by
      unfold walkD at h
      cases hl : look ds x with
      | none => rw [hl] at h; simp at h
      | some D =>
        rw [hl] at h
        dsimp only at h
        by_cases hk : D.kind = 2
        · rw [if_pos hk] at h
          by_cases he : entOf z D.ents = 0
          · rw [if_pos he] at h
            simp at h
          · exact ⟨D, rfl, hk, he⟩
        · rw [if_neg hk] at h
          simp at h
    obtain ⟨D, hl, hk, he⟩ := hD
    rw [walkD_step l hl hk he] at h ⊢
    rw [List.cons_append, walkD_step (l ++ m) hl hk he]
    exact walkD_two ds l m _ h
theorem walkD_one {ds : List InoD} {u : Int} {D : InoD} {nm : ByteArray} (hl : look ds u = some D) (hk : D.kind = 2) (he : entOf nm D.ents ≠ 0) : walkD ds u [nm] = (entOf nm D.ents, 0) := by
  unfold walkD
  rw [hl]
  dsimp only
  rw [if_pos hk, if_neg he]
  rfl
theorem walkD_snoc {ds : List InoD} {l : List ByteArray} {nm : ByteArray} {x y : Int} (h : walkD ds x (l ++ [nm]) = (y, 0)) : ∃ u E, walkD ds x l = (u, 0) ∧ look ds u = some E ∧ E.kind = 2 ∧ entOf nm E.ents = y ∧ y ≠ 0 := by
  obtain ⟨h1, E, h2, h3⟩ := walkD_app (nm := nm) l x (by rw [h])
  refine ⟨(walkD ds x l).1, E, Prod.ext rfl h1, h2, h3, ?_⟩
  rw [walkD_two ds l [nm] x h1] at h
  unfold walkD at h
  rw [h2] at h
  dsimp only at h
  rw [if_pos h3] at h
  by_cases he : entOf nm E.ents = 0
  · rw [if_pos he] at h
    simp at h
  · rw [if_neg he] at h
    unfold walkD at h
    have := congrArg Prod.fst h
    dsimp only at this
    exact ⟨this, by rw [← this]; exact he⟩
theorem sum_two {α : Type} (f : α → Nat) {a b : α} (hab : a ≠ b) : ∀ (l : List α), a ∈ l → b ∈ l → f a + f b ≤ (l.map f).sum
  | [], h, _ => by cases h
  | x :: l, ha, hb => by
    rw [List.map_cons, List.sum_cons]
    have one : ∀ (c : α) (m : List α), c ∈ m → f c ≤ (m.map f).sum := by
      intro c m
      induction m with
      | nil => intro h; cases h
      | cons y m ih =>
        intro h
        rw [List.map_cons, List.sum_cons]
        rcases List.mem_cons.1 h with rfl | h
        · omega
        · have := ih h
          omega
    rcases List.mem_cons.1 ha with ha' | ha'
    · rcases List.mem_cons.1 hb with hb' | hb'
      · exact absurd (ha'.trans hb'.symm) hab
      · have := one b l hb'
        rw [ha']
        omega
    · rcases List.mem_cons.1 hb with hb' | hb'
      · have := one a l ha'
        rw [hb']
        omega
      · have := sum_two f hab l ha' hb'
        omega
theorem sum_one {α : Type} (f : α → Nat) {a : α} : ∀ (l : List α), a ∈ l → f a ≤ (l.map f).sum
  | [], h => by cases h
  | x :: l, h => by
    rw [List.map_cons, List.sum_cons]
    rcases List.mem_cons.1 h with rfl | h
    · omega
    · have := sum_one f l h
      omega
theorem two_one {α : Type} {l : List α} (h : l.length ≤ 1) {a b : α} (ha : a ∈ l) (hb : b ∈ l) : a = b := by
  match l, h, ha, hb with
  | [x], _, ha, hb => rw [List.mem_singleton.1 ha, List.mem_singleton.1 hb]
theorem lead_in {D : InoD} {x : Int} {nm : ByteArray} (hk : D.kind = 2) (h : (nm, x) ∈ D.ents) : 1 ≤ linksIn D x := by
  unfold linksIn
  rw [if_pos hk]
  have : (nm, x) ∈ D.ents.filter fun e => e.2 == x := List.mem_filter.2 ⟨h, by simp⟩
  exact List.length_pos_of_mem this
/-- What one entry alone leads to. -/
theorem lead_one {ds : List InoD} {x : Int} (h : linksD ds x ≤ 1) {D E : InoD} (hD : D ∈ ds) (hE : E ∈ ds) (hDk : D.kind = 2) (hEk : E.kind = 2) {a b : ByteArray} (ha : (a, x) ∈ D.ents) (hb : (b, x) ∈ E.ents) : D = E ∧ a = b := by
  have h1 := lead_in hDk ha
  have h2 := lead_in hEk hb
  unfold linksD at h
  by_cases hDE : D = E
  · subst hDE
    refine ⟨rfl, ?_⟩
    have h3 : linksIn D x ≤ 1 := Nat.le_trans (sum_one (fun D => linksIn D x) ds hD) h
    unfold linksIn at h3
    rw [if_pos hDk] at h3
    have := two_one h3 (List.mem_filter.2 ⟨ha, by simp⟩) (List.mem_filter.2 ⟨hb, by simp⟩)
    exact congrArg Prod.fst this
  · have h3 := sum_two (fun D => linksIn D x) hDE ds hD hE
    omega
theorem tree_links {nx : Int} {ds : List InoD} (h : treeD nx ds = true) {D : InoD} (hD : D ∈ ds) (hk : D.kind = 2) : linksD ds D.ino ≤ 1 ∧ (D.ino = 1 → linksD ds D.ino = 0) := by
  have h1 := ((treeD_parts h).2.2 D hD).1
  have h2 := ((tabD_ok (treeD_parts h).1).2.2.2.2.1 D hD).1
  unfold inoOk kindR at h2
  simp only [Bool.and_eq_true, Bool.or_eq_true, decide_eq_true_eq, beq_iff_eq] at h2
  obtain ⟨⟨⟨⟨⟨⟨_, h3⟩, h4⟩, _⟩, _⟩, _⟩, h5⟩ := h2
  refine ⟨?_, fun h6 => ?_⟩
  · rcases h5 with h5 | h5
    · omega
    · have := h5.2.2
      omega
  · rw [h6] at h4 h1 ⊢
    have : D.links = 0 := by simpa using h4
    omega
/-- One path alone leads to a directory. -/
theorem path_one {nx : Int} {ds : List InoD} (ht : treeD nx ds = true) : ∀ (k : Nat) (l m : List ByteArray) (x : Int) (D : InoD), l.length = k → walkD ds 1 l = (x, 0) → walkD ds 1 m = (x, 0) → look ds x = some D → D.kind = 2 → l = m := by
  intro k
  induction k with
  | zero =>
    intro l m x D hl h1 h2 h3 h4
    have hl0 : l = [] := List.eq_nil_of_length_eq_zero hl
    subst hl0
    rcases List.eq_nil_or_concat m with rfl | ⟨m', b, rfl⟩
    · rfl
    · rw [List.concat_eq_append] at h2
      obtain ⟨u, E, _, e2, e3, e4, e5⟩ := walkD_snoc h2
      have hx : x = 1 := (congrArg Prod.fst h1).symm
      subst hx
      have hi := (look_mem h3).2
      have h5 := (tree_links ht (look_mem h3).1 h4).2 hi
      have h6 := lead_in e3 (entOf_mem (by rw [e4]; exact e5))
      rw [e4] at h6
      have h7 := sum_one (fun D => linksIn D 1) ds (look_mem e2).1
      unfold linksD at h5
      rw [hi] at h5
      omega
  | succ k ih =>
    intro l m x D hl h1 h2 h3 h4
    rcases List.eq_nil_or_concat l with rfl | ⟨l', a, rfl⟩
    · simp at hl
    rw [List.concat_eq_append] at h1 hl ⊢
    obtain ⟨u, E, d1, d2, d3, d4, d5⟩ := walkD_snoc h1
    have ha := entOf_mem (nm := a) (es := E.ents) (by rw [d4]; exact d5)
    rw [d4] at ha
    have hi := (look_mem h3).2
    have hlk := tree_links ht (look_mem h3).1 h4
    rw [hi] at hlk
    rcases List.eq_nil_or_concat m with rfl | ⟨m', b, rfl⟩
    · exfalso
      have hx : x = 1 := (congrArg Prod.fst h2).symm
      subst hx
      have h5 := hlk.2 rfl
      have h6 := lead_in d3 ha
      have h7 := sum_one (fun D => linksIn D 1) ds (look_mem d2).1
      unfold linksD at h5
      omega
    · rw [List.concat_eq_append] at h2 ⊢
      obtain ⟨v, F, e1, e2, e3, e4, e5⟩ := walkD_snoc h2
      have hb := entOf_mem (nm := b) (es := F.ents) (by rw [e4]; exact e5)
      rw [e4] at hb
      obtain ⟨hEF, hab⟩ := lead_one hlk.1 (look_mem d2).1 (look_mem e2).1 d3 e3 ha hb
      subst hEF
      subst hab
      have huv : u = v := by rw [← (look_mem d2).2, ← (look_mem e2).2]
      subst huv
      rw [ih l' m' u E (by simp at hl; exact hl) d1 e1 d2 d3]
/-- A walk that does not pass the entry that is cut. -/
theorem walk_cut {nx : Int} {ds : List InoD} (ht : treeD nx ds = true) {pl : List ByteArray} {nm : ByteArray} {E : InoD} (hp : walkD ds 1 pl = (E.ino, 0)) (hE : look ds E.ino = some E) (hk : E.kind = 2) : ∀ (suf pre : List ByteArray) (x : Int), walkD ds 1 pre = (x, 0) → ¬ (pl ++ [nm]) <+: (pre ++ suf) → walkD (setD ds { E with ents := cutE E.ents nm }) x suf = walkD ds x suf
  | [], _, _, _, _ => rfl
  | z :: suf, pre, x, h, hn => by
    unfold walkD
    rw [look_setD]
    dsimp only
    by_cases hx : x = E.ino
    · rw [if_pos hx, hx, hE]
      dsimp only
      rw [if_pos hk, if_pos hk]
      have hz : z ≠ nm := fun hz => by
        rw [hx] at h
        have := path_one ht _ pl pre E.ino E rfl hp h hE hk
        subst this
        subst hz
        exact hn ⟨suf, by simp⟩
      rw [entOf_cut hz]
      by_cases h0 : entOf z E.ents = 0
      · rw [if_pos h0, if_pos h0]
      · rw [if_neg h0, if_neg h0]
        refine walk_cut ht hp hE hk suf (pre ++ [z]) _ ?_ (by rw [List.append_assoc]; exact hn)
        rw [walkD_two ds pre [z] 1 (by rw [h]), h]
        dsimp only
        rw [hx]
        exact walkD_one hE hk h0
    · rw [if_neg hx]
      cases hl : look ds x with
      | none => rfl
      | some D =>
        dsimp only
        by_cases hk2 : D.kind = 2
        · rw [if_pos hk2, if_pos hk2]
          by_cases h0 : entOf z D.ents = 0
          · rw [if_pos h0, if_pos h0]
          · rw [if_neg h0, if_neg h0]
            refine walk_cut ht hp hE hk suf (pre ++ [z]) _ ?_ (by rw [List.append_assoc]; exact hn)
            rw [walkD_two ds pre [z] 1 (by rw [h]), h]
            exact walkD_one hl hk2 h0
        · rw [if_neg hk2, if_neg hk2]
theorem strs_map (zs : List Str) : strs (zs.map strB) = zs := by
  unfold strs
  rw [List.map_map]
  conv => rhs; rw [← List.map_id zs]
  refine List.map_congr_left fun z _ => ?_
  simp [strB]
/-- What a path that has a parent is. -/
theorem path_parts {s : ByteArray} (h : (parentOf s.data.toList).2.2 = true) : ∃ zs : List Str, splitOf s.data.toList = some zs ∧ zs ≠ [] ∧ (parentOf s.data.toList).1 = joinOf zs.dropLast ∧ (parentOf s.data.toList).2.1 = zs.getLastD [] ∧ splitOf (joinOf zs.dropLast) = some zs.dropLast := by
  cases hs : splitOf s.data.toList with
  | none => unfold parentOf at h; rw [hs] at h; simp at h
  | some zs =>
    have hne : zs ≠ [] := by
      rintro rfl
      unfold parentOf at h
      rw [hs] at h
      simp at h
    have hpa : parentOf s.data.toList = (joinOf zs.dropLast, zs.getLastD [], true) := by
      unfold parentOf
      rw [hs]
      dsimp only
      rw [if_neg hne]
    rw [hpa]
    exact ⟨zs, rfl, hne, rfl, rfl, split_parent hs hne⟩
theorem walkP_of {ds : List InoD} {l : Str} {zs : List Str} (h : splitOf l = some zs) : walkP ds (strB l) = walkD ds 1 (zs.map strB) := by
  unfold walkP
  rw [show (strB l).data.toList = l from by simp [strB], h]
theorem stat_look {ds : List InoD} {s : ByteArray} {D : InoD} (h : statD ds s = (D, 0)) (hs : ∀ E ∈ ds, look ds E.ino = some E) : walkP ds s = (D.ino, 0) ∧ look ds D.ino = some D := by
  have hw := stat_walk (ds := ds) (s := s) (by rw [h])
  unfold statD at h
  rw [if_pos hw] at h
  cases hl : look ds (walkP ds s).1 with
  | none => rw [hl] at h; simp at h
  | some E =>
    rw [hl] at h
    dsimp only at h
    have he : E = D := congrArg Prod.fst h
    subst he
    have h2 := look_mem hl
    exact ⟨Prod.ext h2.2.symm hw, hs E h2.1⟩
/-- Behind an entry that was cut, the directory of a path that is not below it. -/
theorem stat_cut {nx : Int} {ds : List InoD} {s tp : ByteArray} {D : InoD} (ht : treeD nx ds = true) (hw : (walkP ds s).2 = 0) (hp : (parentOf s.data.toList).2.2 = true) (hq : (parentOf tp.data.toList).2.2 = true) (hb : belowOf s.data.toList tp.data.toList = false) (hD : statD ds (strB (parentOf tp.data.toList).1) = (D, 0)) :
    statD (dropP ds s) (strB (parentOf tp.data.toList).1) = (if D.ino = (statD ds (strB (parentOf s.data.toList).1)).1.ino then { D with ents := cutE D.ents (strB (parentOf s.data.toList).2.1) } else D, 0) := by
  have hself := look_self (treeD_parts ht).1
  obtain ⟨E, hE, hEk⟩ := parent_stat hw hp
  obtain ⟨e1, e2⟩ := stat_look hE hself
  obtain ⟨d1, d2⟩ := stat_look hD hself
  obtain ⟨zs, p1, p2, p3, p4, p5⟩ := path_parts hp
  obtain ⟨ys, q1, q2, q3, q4, q5⟩ := path_parts hq
  unfold dropP
  rw [hE]
  dsimp only
  rw [p3, walkP_of p5] at e1
  rw [q3, walkP_of q5] at d1
  rw [p4, q3]
  have hn : ¬ (zs.dropLast.map strB ++ [strB (zs.getLastD [])]) <+: ([] ++ ys.dropLast.map strB) := by
    rintro ⟨t, h⟩
    rw [List.nil_append] at h
    have h1 : strs (zs.dropLast.map strB ++ [strB (zs.getLastD [])] ++ t) = ys.dropLast := by rw [h, strs_map]
    have h2 : zs = zs.dropLast ++ [zs.getLastD []] := by
      conv => lhs; rw [← List.dropLast_concat_getLast p2]
      rw [List.getLastD_eq_getLast?, List.getLast?_eq_some_getLast p2]
      rfl
    have h3 : strs (zs.dropLast.map strB ++ [strB (zs.getLastD [])] ++ t) = zs ++ strs t := by
      unfold strs
      rw [List.map_append]
      congr 1
      have := strs_map (zs.dropLast ++ [zs.getLastD []])
      rw [List.map_append, List.map_cons, List.map_nil] at this
      unfold strs at this
      rw [this]
      exact h2.symm
    rw [h3] at h1
    have h4 : zs <+: ys := List.IsPrefix.trans (⟨strs t, h1⟩ : zs <+: ys.dropLast) (List.dropLast_prefix ys)
    unfold belowOf at hb
    rw [p1, q1] at hb
    dsimp only at hb
    have h5 := List.prefix_iff_eq_take.1 h4
    rw [← h5] at hb
    simp [h4.length_le] at hb
  have hc := walk_cut ht (nm := strB (zs.getLastD [])) e1 e2 hEk (ys.dropLast.map strB) [] 1 rfl hn
  unfold statD
  rw [walkP_of q5, hc, d1]
  dsimp only
  rw [if_pos rfl, look_setD]
  dsimp only
  by_cases hx : D.ino = E.ino
  · rw [if_pos hx, if_pos hx]
    rw [hx, e2] at d2
    cases d2
    rfl
  · rw [if_neg hx, if_neg hx, d2]
/-- Two paths have one directory above them just if the paths of these are one. -/
theorem same_above {nx : Int} {ds : List InoD} {s tp : ByteArray} {D E : InoD} (ht : treeD nx ds = true) (hp : (parentOf s.data.toList).2.2 = true) (hq : (parentOf tp.data.toList).2.2 = true) (hE : statD ds (strB (parentOf s.data.toList).1) = (E, 0)) (hD : statD ds (strB (parentOf tp.data.toList).1) = (D, 0)) (hk : D.kind = 2) : strB (parentOf s.data.toList).1 = strB (parentOf tp.data.toList).1 ↔ D.ino = E.ino := by
  have hself := look_self (treeD_parts ht).1
  obtain ⟨e1, e2⟩ := stat_look hE hself
  obtain ⟨d1, d2⟩ := stat_look hD hself
  obtain ⟨zs, p1, p2, p3, p4, p5⟩ := path_parts hp
  obtain ⟨ys, q1, q2, q3, q4, q5⟩ := path_parts hq
  constructor
  · intro h
    rw [h, hD] at hE
    cases hE
    rfl
  · intro h
    rw [p3, walkP_of p5] at e1
    rw [q3, walkP_of q5] at d1
    rw [h] at d1 d2
    have h1 := path_one ht _ _ _ E.ino D rfl e1 d1 d2 hk
    have h2 : strs (zs.dropLast.map strB) = strs (ys.dropLast.map strB) := by rw [h1]
    rw [strs_map, strs_map] at h2
    rw [p3, q3, h2]
/-- A file that is set anew, as a file: a walk does not see it. -/
theorem walkD_file {ds : List InoD} {N M : InoD} (hN : look ds N.ino = some M) (h1 : M.kind ≠ 2) (h2 : N.kind ≠ 2) : ∀ (l : List ByteArray) (x : Int), walkD (setD ds N) x l = walkD ds x l
  | [], x => rfl
  | nm :: l, x => by
    unfold walkD
    rw [look_setD]
    by_cases hx : x = N.ino
    · rw [if_pos hx, hx, hN]
      dsimp only
      rw [if_neg h1, if_neg h2]
    · rw [if_neg hx]
      cases hl : look ds x with
      | none => rfl
      | some D =>
        dsimp only
        rw [walkD_file hN h1 h2 l]
theorem badK_filed {ds : List InoD} {N M : InoD} (hN : look ds N.ino = some M) (h1 : M.kind = 1) (h2 : N.kind = 1) (s : ByteArray) : badK 1 (setD ds N) s = badK 1 ds s := by
  have hw : walkP (setD ds N) s = walkP ds s := by
    unfold walkP
    cases splitOf s.data.toList with
    | none => rfl
    | some l => exact walkD_file hN (by omega) (by omega) _ 1
  unfold badK statD
  rw [hw, look_setD]
  by_cases h0 : (walkP ds s).2 = 0
  · rw [if_pos h0, if_pos h0]
    by_cases hx : (walkP ds s).1 = N.ino
    · rw [if_pos hx, hx, hN]
      dsimp only
      rw [if_pos ⟨rfl, h2⟩, if_pos ⟨rfl, h1⟩]
    · rw [if_neg hx]
  · rw [if_neg h0, if_neg h0]
end
end Go.Proofs.YtmfimoccemgoiaaGreatDoor
