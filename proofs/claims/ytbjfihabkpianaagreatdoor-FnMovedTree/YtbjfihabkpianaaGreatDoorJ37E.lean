/-
  Joined: LinkI, ChgHardLink, LinkT, FullW.
-/
import Derived.Test.YtbjfihabkpianaaGreatDoorJ36E
namespace Go.Proofs.YtbjfihabkpianaaGreatDoor
section
open Go.RowKit
def linkC (ds : List InoD) (p q : ByteArray) : Int := if notR q = false then 1 else if (badK 2 ds p).2 ≠ 0 then (badK 2 ds p).2 else if (dirFor ds q).2 ≠ 0 then (dirFor ds q).2 else if 10 ≤ (dirFor ds q).1.ents.length then 5 else 0
def linkT (ds : List InoD) (p q : ByteArray) : List InoD := setD (setD ds { (badK 2 ds p).1 with links := (badK 2 ds p).1.links + 1 }) { (dirFor ds q).1 with ents := insBy (fun x => gtS (strB (parentOf q.data.toList).2.1) x.1) (dirFor ds q).1.ents (strB (parentOf q.data.toList).2.1, (badK 2 ds p).1.ino) }
theorem badK_kind {ds : List InoD} {s : ByteArray} {D : InoD} {kd : Int} (h : badK kd ds s = (D, 0)) : D.kind ≠ kd ∧ statD ds s = (D, 0) := by
  unfold badK at h
  split at h
  · cases h
  · rename_i hc
    refine ⟨fun hk => hc ⟨by rw [h], by rw [h]; exact hk⟩, h⟩
set_option maxRecDepth 100000 in
set_option maxHeartbeats 4000000 in
theorem linkM (a : Option Addr) (n cap : Nat) (nx : Int) (rs : List InoR) (p q : ByteArray) (k : Int) (da : Option Addr) (dn dc : Nat) (an av : ByteArray) (w : World) (ht : TR w a n rs) (htr : treeD nx (rs.map InoR.D) = true) (hs : p.size ≤ 1048576) (hs1 : q.size ≤ 1048576) :
    Calls Tryz.prog 160 #[.agg #[.slice a n cap, .int .i64 nx], .agg #[.string p, .string q, .int .i64 k, .slice da dn dc, .string an, .string av]] w fun e w' => EMeth w nx (linkT (rs.map InoR.D) p q) (linkC (rs.map InoR.D) p q) e w' := by
  have B0 : Below w.heap.size w (((w.alloc (.cells #[.slice a n cap, .int .i64 nx] 47)).alloc (.cells #[.string p, .string q, .int .i64 k, .slice da dn dc, .string an, .string av] 108)).alloc (.cells #[.slice none 0 0, .int .i64 0] 47)) := (((Below.refl _ w).alloc (Nat.le_refl _) _).alloc (by simp) _).alloc (by simp; omega) _
  have zT := ((Blk.new w 47 #[.slice a n cap, .int .i64 nx]).alloc (.cells #[.string p, .string q, .int .i64 k, .slice da dn dc, .string an, .string av] 108)).alloc (.cells #[.slice none 0 0, .int .i64 0] 47)
  have zC := (Blk.new (w.alloc (.cells #[.slice a n cap, .int .i64 nx] 47)) 108 #[.string p, .string q, .int .i64 k, .slice da dn dc, .string an, .string av]).alloc (.cells #[.slice none 0 0, .int .i64 0] 47)
  have zR := Blk.new ((w.alloc (.cells #[.slice a n cap, .int .i64 nx] 47)).alloc (.cells #[.string p, .string q, .int .i64 k, .slice da dn dc, .string an, .string av] 108)) 47 #[.slice none 0 0, .int .i64 0]
  simp only [World.size_alloc] at zC zR
  have bN : Below w.heap.size w ((((w.alloc (.cells #[.slice a n cap, .int .i64 nx] 47)).alloc (.cells #[.string p, .string q, .int .i64 k, .slice da dn dc, .string an, .string av] 108)).alloc (.cells #[.slice none 0 0, .int .i64 0] 47)).alloc (.cells #[.string q] 9)) := B0.alloc B0.size _
  have zN := Blk.new (((w.alloc (.cells #[.slice a n cap, .int .i64 nx] 47)).alloc (.cells #[.string p, .string q, .int .i64 k, .slice da dn dc, .string an, .string av] 108)).alloc (.cells #[.slice none 0 0, .int .i64 0] 47)) 9 #[.string q]
  simp only [World.size_alloc] at zN
  have zTn := zT.alloc (.cells #[.string q] 9)
  have zCn := zC.alloc (.cells #[.string q] 9)
  have zRn := zR.alloc (.cells #[.string q] 9)
  have c0 := zC.cell 0
  have c1 := zC.cell 1
  simp at c0 c1
  obtain ⟨hK, hwf, hwe⟩ := tree_facts htr
  obtain ⟨f4, f5, f6⟩ := tree_more htr
  have hps := parent_size q
  have hnz : (strB (parentOf q.data.toList).2.1).size ≤ 1048576 := by have := (parent_small q.data.toList).2; rw [strB_size]; omega
  have hcF := fun (W : World) (hW : Below w.heap.size w W) => fileI a n cap nx rs p W (ht.keep hW) hK hwf hwe (by omega)
  have hcE := fun (W : World) (hW : Below w.heap.size w W) => dirForI a n cap nx rs q W (ht.keep hW) hK hwf hwe (by omega)
  have hlen : (rs.map InoR.D).length = n := by rw [List.length_map, ht.len]
  have HTR : Hid _ := htr
  obtain ⟨ds, hds⟩ : ∃ ds, rs.map InoR.D = ds := ⟨_, rfl⟩
  rw [hds] at hcF hcE HTR f4 f5 f6 hlen ⊢
  have HDS : Hid _ := hds
  have HT : Hid _ := ht
  have HKK : Hid (∀ D ∈ ds, D.kind = 1 ∨ D.kind = 2) := fun D hD => by rw [← hds] at hD; obtain ⟨r, hr, rfl⟩ := List.mem_map.1 hD; exact hK r hr
  have HWF : Hid (∀ D ∈ ds, (Lit.int .i64 D.ino).wf = true) := fun D hD => by rw [← hds] at hD; obtain ⟨r, hr, rfl⟩ := List.mem_map.1 hD; exact hwf r hr
  have HWE : Hid (∀ D ∈ ds, ∀ e ∈ D.ents, (Lit.int .i64 e.2).wf = true) := fun D hD => by rw [← hds] at hD; obtain ⟨r, hr, rfl⟩ := List.mem_map.1 hD; exact hwe r hr
  have HSM : Hid (∀ D ∈ ds, InoSmall D) := fun D hD => by rw [← hds] at hD; obtain ⟨r, hr, rfl⟩ := List.mem_map.1 hD; exact ht.small r hr
  obtain ⟨CO, hCO⟩ : ∃ c, linkC ds p q = c := ⟨_, rfl⟩
  obtain ⟨TT, hTT⟩ : ∃ c, linkT ds p q = c := ⟨_, rfl⟩
  rw [hCO, hTT]
  unfold linkC at hCO
  unfold linkT at hTT
  have HMEM : Hid _ := @badK_mem 2 ds p
  obtain ⟨D, c, hDc⟩ : ∃ D c, badK 2 ds p = (D, c) := ⟨_, _, rfl⟩
  obtain ⟨E, c2, hEc⟩ : ∃ D c, dirFor ds q = (D, c) := ⟨_, _, rfl⟩
  rw [hDc] at hcF hCO hTT HMEM
  rw [hEc] at hcE hCO hTT
  dsimp only at hcF hcE hCO hTT HMEM
  have HDC : Hid _ := hDc
  have HEC : Hid _ := hEc
  have HTT : Hid _ := hTT
  have HLL : Hid _ := hlen
  have HF4 : Hid _ := f4
  have HF5 : Hid _ := f5
  have HF6 : Hid _ := f6
  have HCE : Hid _ := hcE
  have hcn := notRootI (some ⟨_, 0, none⟩) 1 1 [q] _ rfl (by omega) (fun z hz => by simp at hz; rw [hz]; omega) (strs_row zN)
  simp only [List.all_cons, List.all_nil, Bool.and_true] at hcn
  clear hTT hDc hEc ht hK hwf hwe hds htr hlen f4 f5 f6 hcE
  go_enter Tryz.func160, Tryz.ntmps160
  go_wp2_with fail
  obtain ⟨Wz, hWz⟩ : ∃ W, (((w.alloc (.cells #[.slice a n cap, .int .i64 nx] 47)).alloc (.cells #[.string p, .string q, .int .i64 k, .slice da dn dc, .string an, .string av] 108)).alloc (.cells #[.slice none 0 0, .int .i64 0] 47)).alloc (.cells #[.string q] 9) = W := ⟨_, rfl⟩
  rw [hWz] at bN zN zTn zCn zRn hcn ⊢
  clear hWz zT zC zR B0 c0 c1 zN
  (with_reducible refine hcn.mono ?_)
  rintro e w1 ⟨rfl, b1⟩
  have zt1 := zTn.keep b1
  have zc1 := zCn.keep b1
  have zr1 := zRn.keep b1
  have hb1 := bN.trans (b1.mono bN.size)
  have c0 := zc1.cell 0
  have c1 := zc1.cell 1
  have t0 := zt1.cell 0
  have t1 := zt1.cell 1
  have r0 := zr1.cell 0
  have r1 := zr1.cell 1
  have f0 := zr1.frozen 0
  have f1 := zr1.frozen 1
  simp at c0 c1 t0 t1 r0 r1
  clear hcn zTn zCn zRn bN b1
  cases hnr : notR q with
  | false =>
    rw [hnr, if_pos rfl] at hCO
    subst hCO
    rw [if_neg (by decide), errV_some (by decide)]
    clear hnr hcF
    have hend : Hid (EMeth w nx TT 1 (.returned (.tuple #[.agg #[.slice none 0 0, .int .i64 0], .iface 139 (.int .i64 1)])) ((w1.setCell ⟨w.heap.size + 1 + 1, 0, none⟩ (.slice none 0 0)).setCell ⟨w.heap.size + 1 + 1, 1, none⟩ (.int .i64 0))) := eMeth_no (by decide) ((hb1.setCell (p := ⟨w.heap.size + 1 + 1, 0, none⟩) (by show _ ≤ w.heap.size + 1 + 1; omega) _).setCell (p := ⟨w.heap.size + 1 + 1, 1, none⟩) (by show _ ≤ w.heap.size + 1 + 1; omega) _)
    have zf := blk2 zr1 (.slice none 0 0) (.int .i64 0)
    have dd0 := zf.cell 0
    have dd1 := zf.cell 1
    simp at dd0 dd1
    clear zf
    go_wp2
    refine bodyPost_ret (v := .tuple #[.agg #[.slice none 0 0, .int .i64 0], .iface 139 (.int .i64 1)]) (by simp [results, Tryz.f160, go_sem, dd0, dd1]) rfl ?_
    exact hend.out
  | true =>
    rw [hnr, if_neg (by decide)] at hCO
    rw [if_pos rfl, errV_zero]
    have hcf := hcF w1 hb1
    clear hcF hnr
    go_wp2_with fail
    (with_reducible refine hcf.mono ?_)
    rintro e w2 ⟨b1, d1, b2, d2, b3, d3, rfl, g2, bb2⟩
    have zt := (zt1.keep bb2).alloc (.cells #[.int .i64 D.ino, .int .i64 D.kind, .int .i64 D.links, .slice b1 D.data.length d1, .slice b2 D.ents.length d2, .slice b3 D.attrs.length d3] 68)
    have zc := (zc1.keep bb2).alloc (.cells #[.int .i64 D.ino, .int .i64 D.kind, .int .i64 D.links, .slice b1 D.data.length d1, .slice b2 D.ents.length d2, .slice b3 D.attrs.length d3] 68)
    have zr := (zr1.keep bb2).alloc (.cells #[.int .i64 D.ino, .int .i64 D.kind, .int .i64 D.links, .slice b1 D.data.length d1, .slice b2 D.ents.length d2, .slice b3 D.attrs.length d3] 68)
    have hb2 := hb1.trans (bb2.mono hb1.size)
    have hb3 := hb2.alloc hb2.size (.cells #[.int .i64 D.ino, .int .i64 D.kind, .int .i64 D.links, .slice b1 D.data.length d1, .slice b2 D.ents.length d2, .slice b3 D.attrs.length d3] 68)
    have hbA : Below w2.heap.size w2 (w2.alloc (.cells #[.int .i64 D.ino, .int .i64 D.kind, .int .i64 D.links, .slice b1 D.data.length d1, .slice b2 D.ents.length d2, .slice b3 D.attrs.length d3] 68)) := (Below.refl _ w2).alloc (Nat.le_refl _) _
    have zX := Blk.new w2 68 #[.int .i64 D.ino, .int .i64 D.kind, .int .i64 D.links, .slice b1 D.data.length d1, .slice b2 D.ents.length d2, .slice b3 D.attrs.length d3]
    have g3 := g2.keep (Nat.le_refl _) hbA
    have hsR : w.heap.size + 1 + 1 < w2.heap.size := (zr1.keep bb2).lt
    obtain ⟨X, hX⟩ : ∃ X, w2.heap.size = X := ⟨_, rfl⟩
    obtain ⟨W3, hW3⟩ : ∃ W, w2.alloc (.cells #[.int .i64 D.ino, .int .i64 D.kind, .int .i64 D.links, .slice b1 D.data.length d1, .slice b2 D.ents.length d2, .slice b3 D.attrs.length d3] 68) = W := ⟨_, rfl⟩
    rw [hW3] at zt zc zr hb3 zX g3
    rw [hX] at zX g3 hsR
    have HZT : Hid _ := zt
    have HZC : Hid _ := zc
    have HZR : Hid _ := zr
    have HB3 : Hid _ := hb3
    have HG3 : Hid _ := g3
    have HZX : Hid _ := zX
    have r0 := zr.cell 0
    have r1 := zr.cell 1
    have f0 := zr.frozen 0
    have f1 := zr.frozen 1
    have c0 := zc.cell 0
    have c1 := zc.cell 1
    have t0 := zt.cell 0
    have t1 := zt.cell 1
    simp at r0 r1 c0 c1 t0 t1
    clear hcf zt1 zc1 zr1 g2 bb2 hb2 hbA hb1 zt zc zr hb3 g3 zX
    by_cases hc0 : c = 0
    · subst hc0
      rw [if_neg (by simp)] at hCO
      rw [errV_zero]
      have hce := HCE.out W3 HB3.out
      clear HCE
      go_wp2_with fail
      (with_reducible refine hce.mono ?_)
      rintro e w4 ⟨e1, g1, e2, g2, e3, g3, rfl, gE, b4⟩
      have zt := (Blk.keep HZT.out b4).alloc (.cells #[.int .i64 E.ino, .int .i64 E.kind, .int .i64 E.links, .slice e1 E.data.length g1, .slice e2 E.ents.length g2, .slice e3 E.attrs.length g3] 68)
      have zc := (Blk.keep HZC.out b4).alloc (.cells #[.int .i64 E.ino, .int .i64 E.kind, .int .i64 E.links, .slice e1 E.data.length g1, .slice e2 E.ents.length g2, .slice e3 E.attrs.length g3] 68)
      have zr := (Blk.keep HZR.out b4).alloc (.cells #[.int .i64 E.ino, .int .i64 E.kind, .int .i64 E.links, .slice e1 E.data.length g1, .slice e2 E.ents.length g2, .slice e3 E.attrs.length g3] 68)
      have zx := (Blk.keep HZX.out b4).alloc (.cells #[.int .i64 E.ino, .int .i64 E.kind, .int .i64 E.links, .slice e1 E.data.length g1, .slice e2 E.ents.length g2, .slice e3 E.attrs.length g3] 68)
      have zY := Blk.new w4 68 #[.int .i64 E.ino, .int .i64 E.kind, .int .i64 E.links, .slice e1 E.data.length g1, .slice e2 E.ents.length g2, .slice e3 E.attrs.length g3]
      have bA : Below w4.heap.size w4 (w4.alloc (.cells #[.int .i64 E.ino, .int .i64 E.kind, .int .i64 E.links, .slice e1 E.data.length g1, .slice e2 E.ents.length g2, .slice e3 E.attrs.length g3] 68)) := (Below.refl _ w4).alloc (Nat.le_refl _) _
      have hb4 := HB3.out.trans (b4.mono HB3.out.size)
      have hb5 := hb4.trans (bA.mono hb4.size)
      have gD := (HG3.out.keep (by have := Blk.lt HZX.out; omega) b4).keep (by have := Blk.lt HZX.out; have := b4.size; omega) bA
      have hXl : X < w4.heap.size := (Blk.keep HZX.out b4).lt
      obtain ⟨Y, hY⟩ : ∃ X, w4.heap.size = X := ⟨_, rfl⟩
      obtain ⟨W5, hW5⟩ : ∃ W, w4.alloc (.cells #[.int .i64 E.ino, .int .i64 E.kind, .int .i64 E.links, .slice e1 E.data.length g1, .slice e2 E.ents.length g2, .slice e3 E.attrs.length g3] 68) = W := ⟨_, rfl⟩
      rw [hW5] at zt zc zr zx zY hb5 gD
      rw [hY] at zY hXl
      have HZT5 : Hid _ := zt
      have HZC5 : Hid _ := zc
      have HZR5 : Hid _ := zr
      have HZX5 : Hid _ := zx
      have HB5 : Hid _ := hb5
      have HG5 : Hid _ := gD
      have r0 := zr.cell 0
      have r1 := zr.cell 1
      have f0 := zr.frozen 0
      have f1 := zr.frozen 1
      have y4 := zY.cell 4
      have x2 := zx.cell 2
      have x0 := zx.cell 0
      have fx2 := zx.frozen 2
      have c1 := zc.cell 1
      have t0 := zt.cell 0
      have t1 := zt.cell 1
      simp at r0 r1 y4 x2 x0 c1 t0 t1
      clear hce b4 zt zc zr zx zY bA hb4 hb5 gD gE c0
      by_cases hc2 : c2 = 0
      · subst hc2
        rw [if_neg (by simp)] at hCO
        rw [errV_zero]
        obtain ⟨hbk, hen⟩ := dirFor_ok HEC.out
        obtain ⟨m, hm⟩ : ∃ m, E.ents.length = m := ⟨_, rfl⟩
        have HBK : Hid _ := hbk
        have HEN : Hid _ := hen
        have HM : Hid _ := hm
        rw [hm] at hCO y4 hW5 ⊢
        clear hbk hen hm
        by_cases hfull : 10 ≤ m
        · rw [if_pos hfull] at hCO
          subst hCO
          have h10i : (10 : Int) ≤ (m : Int) := by omega
          have h10k : ¬ (m : Int) < 10 := by omega
          have h10j : (m : Int) ≥ 10 := by omega
          clear x2 x0 fx2 c1 t0 t1
          have hend : Hid (EMeth w nx TT 5 (.returned (.tuple #[.agg #[.slice none 0 0, .int .i64 0], .iface 139 (.int .i64 5)])) ((W5.setCell ⟨w.heap.size + 1 + 1, 0, none⟩ (.slice none 0 0)).setCell ⟨w.heap.size + 1 + 1, 1, none⟩ (.int .i64 0))) := eMeth_no (by decide) ((HB5.out.setCell (p := ⟨w.heap.size + 1 + 1, 0, none⟩) (by show _ ≤ w.heap.size + 1 + 1; omega) _).setCell (p := ⟨w.heap.size + 1 + 1, 1, none⟩) (by show _ ≤ w.heap.size + 1 + 1; omega) _)
          have zf := blk2 HZR5.out (.slice none 0 0) (.int .i64 0)
          have dd0 := zf.cell 0
          have dd1 := zf.cell 1
          simp at dd0 dd1
          clear zf
          go_wp2
          refine bodyPost_ret (v := .tuple #[.agg #[.slice none 0 0, .int .i64 0], .iface 139 (.int .i64 5)]) (by simp [results, Tryz.f160, go_sem, dd0, dd1]) rfl ?_
          exact hend.out
        rw [if_neg hfull] at hCO
        subst hCO
        have h10i : ¬ (10 : Int) ≤ (m : Int) := by omega
        have h10k : (m : Int) < 10 := by omega
        have h10j : ¬ (m : Int) ≥ 10 := by omega
        have hDm : D ∈ ds := HMEM.out (by first | rfl | trivial)
        have hDk : D.kind = 1 := by
          have h1 := (badK_kind HDC.out).1
          rcases HKK.out D hDm with h | h
          · exact h
          · exact absurd h h1
        have hlk := HF5.out D hDm
        have hEm : E ∈ ds := by
          have := @badK_mem 1 ds (strB (parentOf q.data.toList).1)
          rw [HBK.out] at this
          exact this rfl
        have hadd : IntKind.i64.wrap (D.links + 1) = D.links + 1 := wrap_small' (by omega) (by omega)
        have hself := look_self (treeD_parts HTR.out).1
        have zX6 := Blk.set HZX5.out 2 (.int .i64 (D.links + 1))
        have zR6 := Blk.other HZR5.out (B' := X) (by omega) 2 (.int .i64 (D.links + 1))
        have zT6 := Blk.other HZT5.out (B' := X) (by omega) 2 (.int .i64 (D.links + 1))
        have zC6 := Blk.other HZC5.out (B' := X) (by omega) 2 (.int .i64 (D.links + 1))
        have hk6 : KpT W5 (W5.setCell ⟨X, 2, none⟩ (.int .i64 (D.links + 1))) [5, 154, 106] := KpT.grown (gr_setC W5 X 2 _) HZX5.out (by decide)
        have hb6 := HB5.out.setCell (p := ⟨X, 2, none⟩) (show w.heap.size ≤ X by omega) (.int .i64 (D.links + 1))
        have g6 := inoG_kp HG5.out hk6
        obtain ⟨W6, hW6⟩ : ∃ W, W5.setCell ⟨X, 2, none⟩ (.int .i64 (D.links + 1)) = W := ⟨_, rfl⟩
        rw [hW6] at zX6 zR6 zT6 zC6 hb6 g6
        have hrd6 : InoRd W6 { D with links := D.links + 1 } b1 b2 b3 := InoG.rds (B := 0) (T := W6.heap.size) (c1 := d1) (c2 := d2) (c3 := d3) (inoG_links (D.links + 1) g6)
        have hsD := HSM.out D hDm
        have HSX : Hid (InoSmall { D with links := D.links + 1 }) := ⟨hsD.data, hsD.ents, hsD.attrs, hsD.entsz, hsD.attrsz⟩
        have bd6 : Below W6.heap.size W6 W6.drew := (Below.refl _ W6).drew
        have hcS := setI a n cap nx rs { D with links := D.links + 1 } b1 b2 b3 d1 d2 d3 W6.drew HT.out.len HT.out.n (HWF.out D hDm) (fun r hr => HWF.out r.D (by rw [← HDS.out]; exact List.mem_map_of_mem hr)) HT.out.small HSX.out (RdI.keep (RdI.keep HT.out.rd hb6) bd6) (hrd6.keep bd6)
        dsimp only at hcS
        have HK6 : Hid (∀ V : World, Below W6.heap.size W6 V → V.cell? ⟨w.heap.size, 0, none⟩ = some (.slice a n cap) ∧ V.cell? ⟨w.heap.size, 1, none⟩ = some (.int .i64 nx) ∧ V.cell? ⟨w.heap.size + 1, 1, none⟩ = some (.string q) ∧ V.cell? ⟨X, 0, none⟩ = some (.int .i64 D.ino) ∧ V.cell? ⟨X, 1, none⟩ = some (.int .i64 D.kind) ∧ V.cell? ⟨X, 2, none⟩ = some (.int .i64 (D.links + 1)) ∧ V.cell? ⟨X, 3, none⟩ = some (.slice b1 D.data.length d1) ∧ V.cell? ⟨X, 4, none⟩ = some (.slice b2 D.ents.length d2) ∧ V.cell? ⟨X, 5, none⟩ = some (.slice b3 D.attrs.length d3)) := fun V hV => ⟨(Blk.keep zT6 hV).cell 0, (Blk.keep zT6 hV).cell 1, (Blk.keep zC6 hV).cell 1, (Blk.keep zX6 hV).cell 0, (Blk.keep zX6 hV).cell 1, (Blk.keep zX6 hV).cell 2, (Blk.keep zX6 hV).cell 3, (Blk.keep zX6 hV).cell 4, (Blk.keep zX6 hV).cell 5⟩
        obtain ⟨D1, hD1⟩ : ∃ l, setD ds { D with links := D.links + 1 } = l := ⟨_, rfl⟩
        have hm1 : ∀ F ∈ D1, F = { D with links := D.links + 1 } ∨ F ∈ ds := fun F hF => setD_memC (by rw [hD1]; exact hF)
        have HM1 : Hid _ := hm1
        have HS1 : Hid (∀ F ∈ D1, InoSmall F) := fun F hF => (hm1 F hF).elim (fun h => by rw [h]; exact HSX.out) (fun h => HSM.out F h)
        have HL1 : Hid (D1.length ≤ 1048576) := by
          have h1 := setD_lenC ds { D with links := D.links + 1 }
          rw [hD1] at h1
          have h2 := HF6.out
          show _ ≤ _
          omega
        have HBK1 : Hid (badK 1 D1 (strB (parentOf q.data.toList).1) = (E, 0)) := by
          show _ = _
          rw [← hD1, badK_filed (N := { D with links := D.links + 1 }) (M := D) (hself D hDm) hDk hDk]
          exact HBK.out
        have HNO : Hid (∀ e ∈ E.ents, (e.1.toList == (strB (parentOf q.data.toList).2.1).toList) = false) := fun e he => str_ne (entOf_zero HEN.out (fun x hx => by
          have h1 := ((treeD_parts HTR.out).2.2 E hEm).2 x hx
          cases hl : look ds x.2 with
          | none => rw [hl] at h1; cases h1
          | some F =>
            have h2 := look_mem hl
            have h3 := ((tabD_ok (treeD_parts HTR.out).1).2.2.2.2.1 F h2.1).1
            unfold inoOk at h3
            simp only [Bool.and_eq_true, decide_eq_true_eq] at h3
            omega) e he)
        have HOK : Hid (entsOk E.ents = true) := (ok_parts ((tabD_ok (treeD_parts HTR.out).1).2.2.2.2.1 E hEm).1).2.2.1
        have HK1 : Hid (∀ F ∈ D1, F.kind = 1 ∨ F.kind = 2) := fun F hF => (hm1 F hF).elim (fun h => by rw [h]; exact .inl hDk) (fun h => HKK.out F h)
        have HF1 : Hid (∀ F ∈ D1, (Lit.int .i64 F.ino).wf = true) := fun F hF => (hm1 F hF).elim (fun h => by rw [h]; exact HWF.out D hDm) (fun h => HWF.out F h)
        have HE1 : Hid (∀ F ∈ D1, ∀ e ∈ F.ents, (Lit.int .i64 e.2).wf = true) := fun F hF => (hm1 F hF).elim (fun h => by rw [h]; exact HWE.out D hDm) (fun h => HWE.out F h)
        have HN1 : Hid (∀ F ∈ D1, F.ents.length ≤ 100) := fun F hF => (hm1 F hF).elim (fun h => by rw [h]; exact HF4.out D hDm) (fun h => HF4.out F h)
        have HCW : Hid (∀ (W : World) (ra : Option Addr) (rn rc : Nat) (rs' : List InoR), TR W ra rn rs' → rs'.map InoR.D = D1 → Calls Tryz.prog 213 #[.agg #[.slice ra rn rc, .int .i64 nx], .string q, .int .i64 D.ino] W fun e w' => ∃ v, e = .returned v ∧ TabAt W nx TT v w') := fun W ra rn rc rs' hT hr => by
          have hin : ∀ r ∈ rs', r.D ∈ D1 := fun r hr' => by rw [← hr]; exact List.mem_map_of_mem hr'
          have := withI ra rn rc nx rs' q D.ino W hT (fun r hr' => HK1.out _ (hin r hr')) (fun r hr' => HF1.out _ (hin r hr')) (fun r hr' => HE1.out _ (hin r hr')) (fun r hr' => HN1.out _ (hin r hr')) (by omega) (by omega) E (by rw [hr]; exact HBK1.out) hnz HNO.out (ents_mono HOK.out _)
          rw [hr, ← hD1, HTT.out] at this
          exact this
        have HD1 : Hid _ := hD1
        have HZR6 : Hid _ := zR6
        have HB6 : Hid _ := hb6
        obtain ⟨DI, hDI⟩ : ∃ x, D.ino = x := ⟨_, rfl⟩
        obtain ⟨DK, hDK⟩ : ∃ x, D.kind = x := ⟨_, rfl⟩
        obtain ⟨n1, hn1⟩ : ∃ x, D.data.length = x := ⟨_, rfl⟩
        obtain ⟨n2, hn2⟩ : ∃ x, D.ents.length = x := ⟨_, rfl⟩
        obtain ⟨n3, hn3⟩ : ∃ x, D.attrs.length = x := ⟨_, rfl⟩
        rw [hDI, hDK, hn1, hn2, hn3] at HK6
        rw [hDI, hDK] at HD1
        rw [hDI] at HCW
        rw [hDI] at x0
        rw [hDI, hDK, hn1, hn2, hn3] at hcS
        have hk6' := HK6.out W6 (Below.refl _ W6)
        obtain ⟨u0, u1, u2, u3, u4, u5, u6, u7, u8⟩ := hk6'
        have nq1 : ¬ w.heap.size + 1 + 1 = w.heap.size := by omega
        have nq2 : ¬ w.heap.size = w.heap.size + 1 + 1 := by omega
        have nq3 : ¬ w.heap.size + 1 + 1 = X := by omega
        have nq4 : ¬ X = w.heap.size + 1 + 1 := by omega
        have nq5 : ¬ w.heap.size + 1 = w.heap.size + 1 + 1 := by omega
        have nq6 : ¬ w.heap.size + 1 + 1 = w.heap.size + 1 := by omega
        clear zX6 zR6 zT6 zC6 hk6 hb6 g6 hrd6 hsD hDm hDk hlk hEm hself hm1 hDI hDK hn1 hn2 hn3 hD1 bd6
        go_upto_region 13 with fail
        go_region_held3 (fun V : World => V.cell? ⟨w.heap.size, 0, none⟩ = some (.slice a n cap) ∧ V.cell? ⟨w.heap.size, 1, none⟩ = some (.int .i64 nx) ∧ V.cell? ⟨w.heap.size + 1, 1, none⟩ = some (.string q) ∧ V.cell? ⟨X, 0, none⟩ = some (.int .i64 DI) ∧ V.cell? ⟨X, 1, none⟩ = some (.int .i64 DK) ∧ V.cell? ⟨X, 2, none⟩ = some (.int .i64 (D.links + 1)) ∧ V.cell? ⟨X, 3, none⟩ = some (.slice b1 n1 d1) ∧ V.cell? ⟨X, 4, none⟩ = some (.slice b2 n2 d2) ∧ V.cell? ⟨X, 5, none⟩ = some (.slice b3 n3 d3)) (go_keep) (first
          | (go_at_call 207; (with_reducible refine hcS.mono ?_); intro e w7 hp7; obtain ⟨v7, rfl, ta7⟩ := hp7.tab; rw [setD_eq, HDS.out] at ta7; dsimp only at ta7; rw [HD1.out] at ta7; obtain ⟨a7, n7, c7, rs7, rfl, hT7, hR7, b7⟩ := ta7.read HS1.out HL1.out; have B7 : Below W6.heap.size W6 w7 := (Below.refl _ W6).drew.trans b7; obtain ⟨s0, s1, s2, s3, s4, s5, s6, s7, s8⟩ := HK6.out w7 B7; have hcE := HCW.out w7 a7 n7 c7 rs7 (hT7 w7 (Below.refl _ _)) hR7)
          | (go_at_call 213; (with_reducible refine hcE.mono ?_); rintro e w9 ⟨v9, rfl, ta9⟩; have ta9' := ta9; obtain ⟨ra, rc, js, rfl, _, b9⟩ := ta9'; obtain ⟨rn, hrn⟩ : ∃ rn, js.length = rn := ⟨_, rfl⟩; rw [hrn] at ta9 ⊢; have B9 : Below W6.heap.size W6 w9 := B7.trans (b9.mono B7.size); obtain ⟨v0, v1, v2, v3, v4, v5, v6, v7, v8⟩ := HK6.out w9 B9; have zr9 := Blk.keep HZR6.out B9; have y0 := zr9.cell 0; have y1 := zr9.cell 1; have yf0 := zr9.frozen 0; have yf1 := zr9.frozen 1; simp at y0 y1)
          | fail)
        have hb7 := HB6.out.trans (B7.mono HB6.out.size)
        have HFIN : Hid (EMeth w nx TT 0 (.returned (.tuple #[.agg #[.slice ra rn rc, .int .i64 nx], .nilIface])) ((w9.setCell ⟨w.heap.size + 1 + 1, 0, none⟩ (.slice ra rn rc)).setCell ⟨w.heap.size + 1 + 1, 1, none⟩ (.int .i64 nx))) := eMeth_yes ta9 hb7 (by omega) (Blk.keep HZR6.out B7)
        have zf := blk2 zr9 (.slice ra rn rc) (.int .i64 nx)
        have dd0 := zf.cell 0
        have dd1 := zf.cell 1
        simp at dd0 dd1
        clear hcE hp7 ta7 ta9 zf zr9 b9 hrn hT7 hR7 b7 B7 B9 hb7 s0 s1 s2 s3 s4 s5 s6 s7 s8 v0 v1 v2 v3 v4 v5 v6 v7 v8 u0 u1 u2 u3 u4 u5 u6 u7 u8
        go_wp2
        refine bodyPost_ret (v := .tuple #[.agg #[.slice ra rn rc, .int .i64 nx], .nilIface]) (by simp [results, Tryz.f160, go_sem, dd0, dd1]) rfl ?_
        exact HFIN.out
      · rw [if_pos hc2] at hCO
        subst hCO
        rw [errV_some hc2]
        clear x2 x0 fx2 c1 t0 t1 y4
        have hend : Hid (EMeth w nx TT c2 (.returned (.tuple #[.agg #[.slice none 0 0, .int .i64 0], .iface 139 (.int .i64 c2)])) ((W5.setCell ⟨w.heap.size + 1 + 1, 0, none⟩ (.slice none 0 0)).setCell ⟨w.heap.size + 1 + 1, 1, none⟩ (.int .i64 0))) := eMeth_no hc2 ((HB5.out.setCell (p := ⟨w.heap.size + 1 + 1, 0, none⟩) (by show _ ≤ w.heap.size + 1 + 1; omega) _).setCell (p := ⟨w.heap.size + 1 + 1, 1, none⟩) (by show _ ≤ w.heap.size + 1 + 1; omega) _)
        have zf := blk2 HZR5.out (.slice none 0 0) (.int .i64 0)
        have dd0 := zf.cell 0
        have dd1 := zf.cell 1
        simp at dd0 dd1
        clear zf
        go_wp2
        refine bodyPost_ret (v := .tuple #[.agg #[.slice none 0 0, .int .i64 0], .iface 139 (.int .i64 c2)]) (by simp [results, Tryz.f160, go_sem, dd0, dd1]) rfl ?_
        exact hend.out
    · rw [if_pos hc0] at hCO
      subst hCO
      rw [errV_some hc0]
      clear HCE
      have hend : Hid (EMeth w nx TT c (.returned (.tuple #[.agg #[.slice none 0 0, .int .i64 0], .iface 139 (.int .i64 c)])) ((W3.setCell ⟨w.heap.size + 1 + 1, 0, none⟩ (.slice none 0 0)).setCell ⟨w.heap.size + 1 + 1, 1, none⟩ (.int .i64 0))) := eMeth_no hc0 ((HB3.out.setCell (p := ⟨w.heap.size + 1 + 1, 0, none⟩) (by show _ ≤ w.heap.size + 1 + 1; omega) _).setCell (p := ⟨w.heap.size + 1 + 1, 1, none⟩) (by show _ ≤ w.heap.size + 1 + 1; omega) _)
      have zf := blk2 HZR.out (.slice none 0 0) (.int .i64 0)
      have dd0 := zf.cell 0
      have dd1 := zf.cell 1
      simp at dd0 dd1
      clear zf
      go_wp2
      refine bodyPost_ret (v := .tuple #[.agg #[.slice none 0 0, .int .i64 0], .iface 139 (.int .i64 c)]) (by simp [results, Tryz.f160, go_sem, dd0, dd1]) rfl ?_
      exact hend.out
end

section
open Go.RowKit
theorem idx_hardLink (w : World) : (Instr.index 151 (.agg #[.func (.func 154) #[] #[], .func (.func 155) #[] #[], .func (.func 156) #[] #[], .func (.func 157) #[] #[], .func (.func 158) #[] #[], .func (.func 159) #[] #[], .func (.func 160) #[] #[], .func (.func 161) #[] #[], .func (.func 162) #[] #[]]) (.int .i64 6)).run Tryz.prog w = .ok (.func (.func 160) #[] #[]) w := by kernel_rfl
set_option maxRecDepth 100000 in
set_option maxHeartbeats 4000000 in
theorem changed_hardLink (a : Option Addr) (n cap : Nat) (nx : Int) (rs : List InoR) (p q : ByteArray) (k : Int) (da : Option Addr) (dn dc : Nat) (an av : ByteArray) (w : World) (ht : TR w a n rs) (hwf : ∀ r ∈ rs, (Lit.int .i64 r.D.ino).wf = true) (het : EtCell w) (nx' : Int) (ds' : List InoD) (c : Int) (N : Int) (D : List InoD) (C : Int)
    (h1 : treeD nx (rs.map InoR.D) = false → N = nx ∧ D = rs.map InoR.D ∧ C = 1) (h2 : treeD nx (rs.map InoR.D) = true → c ≠ 0 → N = nx ∧ D = rs.map InoR.D ∧ C = c) (h3 : treeD nx (rs.map InoR.D) = true → c = 0 → N = nx' ∧ D = ds' ∧ C = 0)
    (hm : treeD nx (rs.map InoR.D) = true → ∀ W : World, Below w.heap.size w W → Calls Tryz.prog 160 #[.agg #[.slice a n cap, .int .i64 nx], .agg #[.string p, .string q, .int .i64 k, .slice da dn dc, .string an, .string av]] W fun e w' => EMeth W nx' ds' c e w') :
    Calls Tryz.prog 76 #[.agg #[.slice a n cap, .int .i64 nx], .int .i64 6, .agg #[.string p, .string q, .int .i64 k, .slice da dn dc, .string an, .string av]] w fun e w' => TabC w N D C e w' := by
  have B0 : Below w.heap.size w (((w.alloc (.cells #[.slice a n cap, .int .i64 nx] 47)).alloc (.cells #[.string p, .string q, .int .i64 k, .slice da dn dc, .string an, .string av] 108)).alloc (.cells #[.slice none 0 0, .int .i64 0] 47)) := (((Below.refl _ w).alloc (Nat.le_refl _) _).alloc (by simp) _).alloc (by simp; omega) _
  have zT := ((Blk.new w 47 #[.slice a n cap, .int .i64 nx]).alloc (.cells #[.string p, .string q, .int .i64 k, .slice da dn dc, .string an, .string av] 108)).alloc (.cells #[.slice none 0 0, .int .i64 0] 47)
  have zC := (Blk.new (w.alloc (.cells #[.slice a n cap, .int .i64 nx] 47)) 108 #[.string p, .string q, .int .i64 k, .slice da dn dc, .string an, .string av]).alloc (.cells #[.slice none 0 0, .int .i64 0] 47)
  have zR := Blk.new ((w.alloc (.cells #[.slice a n cap, .int .i64 nx] 47)).alloc (.cells #[.string p, .string q, .int .i64 k, .slice da dn dc, .string an, .string av] 108)) 47 #[.slice none 0 0, .int .i64 0]
  simp only [World.size_alloc] at zC zR
  have hcT := treeI a n cap nx rs _ (ht.keep B0) hwf
  go_enter Tryz.func76, Tryz.ntmps76
  go_wp2_with fail
  obtain ⟨W0, hW0⟩ : ∃ W, (((w.alloc (.cells #[.slice a n cap, .int .i64 nx] 47)).alloc (.cells #[.string p, .string q, .int .i64 k, .slice da dn dc, .string an, .string av] 108)).alloc (.cells #[.slice none 0 0, .int .i64 0] 47)) = W := ⟨_, rfl⟩
  rw [hW0] at B0 zT zC zR hcT ⊢
  clear hW0
  (with_reducible refine hcT.mono ?_)
  rintro e w1 ⟨rfl, b1⟩
  clear hcT
  have hb1 := B0.trans (b1.mono B0.size)
  have zt := zT.keep b1
  have zc := zC.keep b1
  have zr := zR.keep b1
  have HT1 : Hid _ := ht.keep hb1
  have HE1 : Hid _ := het.keep hb1
  clear zT zC zR b1 ht het B0
  have t0 := zt.cell 0
  have t1 := zt.cell 1
  simp at t0 t1
  cases htr : treeD nx (rs.map InoR.D) with
  | false =>
    obtain ⟨rfl, rfl, rfl⟩ := h1 htr
    have hcC := copyTab_any a n cap N rs w1 HT1.out.len HT1.out.n HT1.out.small HT1.out.rd
    have HB1 : Hid _ := hb1
    have HZR : Hid _ := zr
    clear h1 h2 h3 hm htr hb1
    go_wp2_with fail
    (with_reducible refine hcC.mono ?_)
    intro e w2 hp2
    obtain ⟨g, rfl, b2, hfin⟩ := copyT hp2 HB1.out (by omega) HZR.out
    have zr2 := Blk.keep HZR.out b2
    have r0 := zr2.cell 0
    have r1 := zr2.cell 1
    have f0 := zr2.frozen 0
    have f1 := zr2.frozen 1
    simp at r0 r1
    have HFIN : Hid _ := hfin w2 (Below.refl _ _) 1
    have zf := blk2 zr2 (.slice (some ⟨g, 0, none⟩) n n) (.int .i64 N)
    have dd0 := zf.cell 0
    have dd1 := zf.cell 1
    simp at dd0 dd1
    clear hcC hp2 hfin zr2 zt zc zr t0 t1 zf
    go_wp2
    refine bodyPost_ret (v := .tuple #[.agg #[.slice (some ⟨g, 0, none⟩) n n, .int .i64 N], .int .i64 1]) (by simp [results, Tryz.f76, go_sem, dd0, dd1]) rfl ?_
    exact HFIN.out
  | true =>
    have hmm := hm htr
    have c0 := zc.cell 0
    have c1 := zc.cell 1
    have c2 := zc.cell 2
    have c3 := zc.cell 3
    have c4 := zc.cell 4
    have c5 := zc.cell 5
    simp at c0 c1 c2 c3 c4 c5
    have HB1 : Hid _ := hb1
    have HZR : Hid _ := zr
    have HZT : Hid _ := zt
    have HZC : Hid _ := zc
    have HMM : Hid _ := hmm
    have HH2 : Hid _ := h2 htr
    have HH3 : Hid _ := h3 htr
    have cC := changesI w1.drew
    have hsz : w.heap.size + 1 + 1 < w1.heap.size := zr.lt
    have hK : Hid (∀ W : World, Below w1.heap.size w1 W → W.cell? ⟨w.heap.size, 0, none⟩ = some (.slice a n cap) ∧ W.cell? ⟨w.heap.size, 1, none⟩ = some (.int .i64 nx) ∧ W.cell? ⟨w.heap.size + 1, 0, none⟩ = some (.string p) ∧ W.cell? ⟨w.heap.size + 1, 1, none⟩ = some (.string q) ∧ W.cell? ⟨w.heap.size + 1, 2, none⟩ = some (.int .i64 k) ∧ W.cell? ⟨w.heap.size + 1, 3, none⟩ = some (.slice da dn dc) ∧ W.cell? ⟨w.heap.size + 1, 4, none⟩ = some (.string an) ∧ W.cell? ⟨w.heap.size + 1, 5, none⟩ = some (.string av)) := fun W hW => by
      have z1 := Blk.keep HZT.out hW
      have z2 := Blk.keep HZC.out hW
      exact ⟨z1.cell 0, z1.cell 1, z2.cell 0, z2.cell 1, z2.cell 2, z2.cell 3, z2.cell 4, z2.cell 5⟩
    clear h1 h2 h3 hm htr hmm zt zc zr hb1
    go_upto_region 3 with fail
    have n0 : w1.heap.size ≠ w.heap.size := by omega
    have n1 : w1.heap.size ≠ w.heap.size + 1 := by omega
    have cC2 := changesI (w1.alloc (.cells #[.slice none 0 0, .int .i64 0] 47)).drew
    have zW1 := Blk.new w1 47 #[.slice none 0 0, .int .i64 0]
    have hix := idx_hardLink
    go_cut [8, 9] from 8 to 31 (fun bx er wx => ∃ (A : Nat) (ra : Option Addr) (rn rc : Nat) (rx : Int), bx = .pointer (some ⟨A, 0, none⟩) ∧ er = errV c ∧ Hid (CHR w1 nx' ds' c A (.slice ra rn rc) (.int .i64 rx) wx))
    case first =>
      go_region_held3 (fun W : World => W.cell? ⟨w.heap.size, 0, none⟩ = some (.slice a n cap) ∧ W.cell? ⟨w.heap.size, 1, none⟩ = some (.int .i64 nx) ∧ W.cell? ⟨w.heap.size + 1, 0, none⟩ = some (.string p) ∧ W.cell? ⟨w.heap.size + 1, 1, none⟩ = some (.string q) ∧ W.cell? ⟨w.heap.size + 1, 2, none⟩ = some (.int .i64 k) ∧ W.cell? ⟨w.heap.size + 1, 3, none⟩ = some (.slice da dn dc) ∧ W.cell? ⟨w.heap.size + 1, 4, none⟩ = some (.string an) ∧ W.cell? ⟨w.heap.size + 1, 5, none⟩ = some (.string av)) (go_keep) (first
        | (go_at_call 110; (with_reducible refine cC.mono ?_); rintro e w10 ⟨rfl, b10⟩; have B10 : Below w1.heap.size w1 w10 := (Below.refl _ w1).drew.trans b10; have K10 := hK.out w10 B10; obtain ⟨p0, p1, p2, p3, p4, p5, p6, p7⟩ := K10; have n2 : w10.heap.size ≠ w.heap.size := (by have := B10.size; omega); have n3 : w10.heap.size ≠ w.heap.size + 1 := (by have := B10.size; omega); have hm10 := HMM.out w10 (HB1.out.trans (B10.mono HB1.out.size)); have hm10a := HMM.out (w10.alloc (.cells #[.slice none 0 0, .int .i64 0] 47)) ((HB1.out.trans (B10.mono HB1.out.size)).alloc (by have := HB1.out.size; have := B10.size; omega) _))
        | (go_at_call 110; (with_reducible refine cC2.mono ?_); rintro e w11 ⟨rfl, b11⟩; have B11 : Below w1.heap.size w1 w11 := ((Below.refl _ w1).alloc (Nat.le_refl _) _).drew.trans (b11.mono (by show _ ≤ (w1.alloc _).heap.size; simp)); have K11 := hK.out w11 B11; obtain ⟨p0, p1, p2, p3, p4, p5, p6, p7⟩ := K11; have z11 : Blk w11 w1.heap.size 47 #[.slice none 0 0, .int .i64 0] := Blk.keep (Blk.drew zW1) b11; have hm11 := HMM.out w11 (HB1.out.trans (B11.mono HB1.out.size)))
        | (go_at_call 160; (with_reducible refine hm10.mono ?_); rintro e w12 ⟨ra, rn, rc, rx, rfl, b12, t12⟩; have B12 : Below w1.heap.size w1 w12 := B10.trans (b12.mono B10.size); have K12 := hK.out w12 B12; obtain ⟨q0, q1, q2, q3, q4, q5, q6, q7⟩ := K12)
        | (go_at_call 160; (with_reducible refine hm10a.mono ?_); rintro e w13 ⟨ra, rn, rc, rx, rfl, b13, t13⟩; have B13 : Below w1.heap.size w1 w13 := (B10.alloc B10.size _).trans (b13.mono (by have := B10.size; simp; omega)); have z13 := (Blk.new w10 47 #[.slice none 0 0, .int .i64 0]).keep b13; have u0 := z13.cell 0; have u1 := z13.cell 1; have x0 := z13.frozen 0; have x1 := z13.frozen 1; simp at u0 u1; have K13 := hK.out w13 B13; obtain ⟨q0, q1, q2, q3, q4, q5, q6, q7⟩ := K13)
        | (go_at_call 160; (with_reducible refine hm11.mono ?_); rintro e w14 ⟨ra, rn, rc, rx, rfl, b14, t14⟩; have B14 : Below w1.heap.size w1 w14 := B11.trans (b14.mono B11.size); have z14 := z11.keep b14; have u0 := z14.cell 0; have u1 := z14.cell 1; have x0 := z14.frozen 0; have x1 := z14.frozen 1; simp at u0 u1; have K14 := hK.out w14 B14; obtain ⟨q0, q1, q2, q3, q4, q5, q6, q7⟩ := K14))
      all_goals (go_wp2_with fail; go_meet)
      all_goals first
        | (have h := chr_new B12 b12 B10.size t12; exact ⟨_, _, _, _, _, rfl, rfl, h⟩)
        | (have h := chr_old B13 B10.size z13 (by simp) t13; exact ⟨_, _, _, _, _, rfl, rfl, h⟩)
        | (have h := chr_old B14 (Nat.le_refl _) z14 (Blk.lt z11) t14; exact ⟨_, _, _, _, _, rfl, rfl, h⟩)
        | fail
    case rest =>
      obtain ⟨A, ra, rn, rc, rx, rfl, rfl, hR⟩ := hcut
      obtain ⟨Wc, hwc⟩ : ∃ W, W = wc := ⟨_, rfl⟩
      subst hwc
      clear t0 t1 c0 c1 c2 c3 c4 c5 cC cC2 zW1 hK HMM n0 n1
      have zt := Blk.keep HZT.out hR.out.b
      have zr := Blk.keep HZR.out hR.out.b
      have hbc := HB1.out.trans (hR.out.b.mono HB1.out.size)
      have t0 := zt.cell 0
      have t1 := zt.cell 1
      simp at t0 t1
      by_cases hc0 : c = 0
      · obtain ⟨rfl, rfl, rfl⟩ := HH3.out hc0
        subst hc0
        rw [errV_zero]
        have HFIN : Hid _ := methT (hR.out.tab rfl) HB1.out (by omega) HZR.out Wc (Below.refl _ _)
        have a0 := hR.out.z.cell 0
        have a1 := hR.out.z.cell 1
        have r0 := zr.cell 0
        have r1 := zr.cell 1
        have f0 := zr.frozen 0
        have f1 := zr.frozen 1
        simp at a0 a1 r0 r1
        have zf := blk2 zr (.slice ra rn rc) (.int .i64 rx)
        have dd0 := zf.cell 0
        have dd1 := zf.cell 1
        simp at dd0 dd1
        clear zt zr zf hbc HH2 HH3 HT1 HE1 t0 t1
        go_wp2
        refine bodyPost_ret (v := .tuple #[.agg #[.slice ra rn rc, .int .i64 rx], .int .i64 0]) (by simp [results, Tryz.f76, go_sem, dd0, dd1]) rfl ?_
        exact HFIN.out
      · obtain ⟨rfl, rfl, rfl⟩ := HH2.out hc0
        rw [errV_some hc0]
        have hTc := HT1.out.keep hR.out.b
        have hEc := EtCell.keep HE1.out hR.out.b
        have hcC := copyTab_any a n cap N rs Wc hTc.len hTc.n hTc.small hTc.rd
        have HZ : Hid _ := zr
        have HBC : Hid _ := hbc
        have HEC : Hid _ := hEc
        have HC0 : Hid _ := hc0
        clear zt zr hbc HH2 HH3 HT1 HE1 hTc hEc hc0
        go_wp2_with fail
        (with_reducible refine hcC.mono ?_)
        intro e w2 hp2
        obtain ⟨g, rfl, b2, hfin⟩ := copyT hp2 HBC.out (by omega) HZ.out
        have hcO := codeOfI C w2 (EtCell.keep HEC.out b2)
        rw [errV_some HC0.out] at hcO
        clear hcC hp2 t0 t1
        go_wp2_with fail
        (with_reducible refine hcO.mono ?_)
        rintro e w3 ⟨rfl, b3⟩
        have zr3 := (Blk.keep HZ.out b2).keep b3
        have r0 := zr3.cell 0
        have r1 := zr3.cell 1
        have f0 := zr3.frozen 0
        have f1 := zr3.frozen 1
        simp at r0 r1
        have HFIN : Hid _ := hfin w3 b3 C
        have zf := blk2 zr3 (.slice (some ⟨g, 0, none⟩) n n) (.int .i64 N)
        have dd0 := zf.cell 0
        have dd1 := zf.cell 1
        simp at dd0 dd1
        clear hcO hfin zr3 zf
        go_wp2
        refine bodyPost_ret (v := .tuple #[.agg #[.slice (some ⟨g, 0, none⟩) n n, .int .i64 N], .int .i64 C]) (by simp [results, Tryz.f76, go_sem, dd0, dd1]) rfl ?_
        exact HFIN.out
end

section
open Go.RowKit
theorem link_code {nx : Int} {ds : List InoD} {s q : ByteArray} (h : treeD nx ds = true) (hK : ∀ D ∈ ds, D.kind = 1 ∨ D.kind = 2) (hI : ∀ D ∈ ds, D.ino ≠ 0) : linkD nx ds s q = if linkC ds s q ≠ 0 then (ds, linkC ds s q) else (linkT ds s q, 0) := by
  unfold linkD linkC linkT notR
  rw [badK_file hK s, spot_dir hK hI q]
  cases hp : (parentOf q.data.toList).2.2 with
  | false => simp [h]
  | true =>
    cases hsp : (splitOf s.data.toList).isSome with
    | false => simp [h, file_form hsp]
    | true =>
      by_cases h0 : (fileD ds s).2 = 0
      · by_cases h1 : (dirFor ds q).2 = 0
        · by_cases h2 : 10 ≤ (dirFor ds q).1.ents.length
          · simp [h, h0, h1, h2]
          · simp [h, h0, h1, h2]
        · simp [h, h0, h1]
      · simp [h, h0]
theorem linkI (a : Option Addr) (n cap : Nat) (nx : Int) (rs : List InoR) (s q : ByteArray) (w : World) (ht : TR w a n rs) (hwf : ∀ r ∈ rs, (Lit.int .i64 r.D.ino).wf = true) (het : EtCell w) (hs : s.size ≤ 1048576) (hs1 : q.size ≤ 1048576) :
    Calls Tryz.prog 40 #[.agg #[.slice a n cap, .int .i64 nx], .string s, .string q] w fun e w' => TabC w nx (linkD nx (rs.map InoR.D) s q).1 (linkD nx (rs.map InoR.D) s q).2 e w' := by
  refine wrap_HardLink a n cap nx s q w nx _ _ (fun W hW => ?_)
  refine changed_hardLink a n cap nx rs s q 0 none 0 0 ⟨#[]⟩ ⟨#[]⟩ W (ht.keep hW) hwf (het.keep hW) nx (linkT (rs.map InoR.D) s q) (linkC (rs.map InoR.D) s q) nx _ _ ?_ ?_ ?_ ?_
  · intro h
    unfold linkD
    rw [if_pos (.inl h)]
    exact ⟨rfl, rfl, rfl⟩
  · intro h hc
    rw [link_code h (tree_kind h) (tree_ino h), if_pos hc]
    exact ⟨rfl, rfl, rfl⟩
  · intro h hc
    rw [link_code h (tree_kind h) (tree_ino h), if_neg (by rw [hc]; simp)]
    exact ⟨rfl, rfl, rfl⟩
  · intro h W' hW'
    exact linkM a n cap nx rs s q 0 none 0 0 ⟨#[]⟩ ⟨#[]⟩ W' ((ht.keep hW).keep hW') h hs hs1
end

section
open Go.RowKit
/-- What the frame tells of a slice of bytes that came in. -/
def ByteRow (w : World) (a : Option Addr) (len cap : Nat) (zs : List Int) : Prop :=
  (a = none ∧ len = 0 ∧ cap = 0 ∧ zs = []) ∨ ∃ x, a = some x ∧ len ≤ cap ∧ cap ≤ maxLen ∧ zs.length = cap ∧ (∀ i, i < zs.length → w.cell? (x.add i) = some (.int .u8 (zs.getD i 0))) ∧ ∀ n ∈ zs, (Lit.int .u8 n).wf = true
/-- A box that holds a table which can be read. -/
def TB (W : World) (X : Nat) (nx : Int) (ds : List InoD) : Prop := ∃ a n c rs, Blk W X 47 #[.slice a n c, .int .i64 nx] ∧ TR W a n rs ∧ rs.map InoR.D = ds
theorem TB.keep {W W' : World} {X : Nat} {nx : Int} {ds : List InoD} (h : TB W X nx ds) (hb : Below W.heap.size W W') : TB W' X nx ds := by
  obtain ⟨a, n, c, rs, h1, h2, h3⟩ := h
  exact ⟨a, n, c, rs, h1.keep hb, h2.keep hb, h3⟩
theorem TB.lt {W : World} {X : Nat} {nx : Int} {ds : List InoD} (h : TB W X nx ds) : X < W.heap.size := by
  obtain ⟨a, n, c, rs, h1, _⟩ := h
  exact h1.lt
/-- A table that was answered with a code, as it is read, in a box or not. -/
theorem TabC.open {w w' : World} {nx : Int} {ds : List InoD} {c : Int} {e : Ending} (h : TabC w nx ds c e w') (hs : ∀ D ∈ ds, InoSmall D) (hl : ds.length ≤ 1048576) : ∃ a n cc rs, e = .returned (.tuple #[.agg #[.slice a n cc, .int .i64 nx], .int .i64 c]) ∧ (∀ V', Below w'.heap.size w' V' → TR V' a n rs ∧ ∀ (X i : Nat) (u : Value), X < w.heap.size → TR (V'.setCell ⟨X, i, none⟩ u) a n rs ∧ ∀ (i' : Nat) (u' : Value), TR ((V'.setCell ⟨X, i, none⟩ u).setCell ⟨X, i', none⟩ u') a n rs) ∧ rs.map InoR.D = ds ∧ Below w.heap.size w w' := by
  obtain ⟨a, cc, js, rfl, hq, hb⟩ := h
  have h1 : (js.map InoJ.r).map InoR.D = ds := by rw [hq.ds, lift_map]
  have h2 : js.length = ds.length := by rw [← h1]; simp
  have hsm : ∀ r ∈ js.map InoJ.r, InoSmall r.D := fun r hr => hs r.D (by rw [← h1]; exact List.mem_map_of_mem hr)
  refine ⟨a, js.length, cc, js.map InoJ.r, rfl, fun V' hV => ⟨⟨by simp, by omega, hsm, (hq.keep hV).rd rfl⟩, fun X i u hX => ⟨⟨by simp, by omega, hsm, ((hq.keep hV).setX hX i u).rd rfl⟩, fun i' u' => ⟨by simp, by omega, hsm, (((hq.keep hV).setX hX i u).setX hX i' u').rd rfl⟩⟩⟩, h1, hb⟩
theorem str_one (x : Int) : (str [x]).size = 1 := rfl
theorem rd_one (W : World) (x : Int) : Rd (W.alloc (.cells #[.int .u8 x] 5)) (some ⟨W.heap.size, 0, none⟩) [x] := by
  refine .inr ⟨W.heap.size, 0, rfl, fun i hi => ?_⟩
  have : i = 0 := by simp at hi; omega
  subst this
  exact (Blk.new W 5 #[.int .u8 x]).cell 0
theorem big8_any (a : Option Addr) (n cap : Nat) (w : World) : Calls Tryz.prog 30 #[.slice a n cap] w fun e w' => e = .returned (.bool (decide ((1048576 : Int) < (n : Int)))) ∧ w' = w := by
  go_enter Tryz.func30, Tryz.ntmps30
  go_wp2
  go_ret
  exact ⟨rfl, rfl⟩
def atV8 (zs : List Int) (n i : Nat) : Nat := if i < n then (zs.getD i 0).toNat else (i * 31 + n * 7) % 256
theorem atV8_le (zs : List Int) (n i : Nat) (hb : Byt zs) : atV8 zs n i ≤ 255 := by
  unfold atV8
  obtain ⟨Z, hZ, hZ1⟩ := byt_at hb i
  split
  · rw [hZ]
    simp
    omega
  · omega
set_option maxHeartbeats 400000 in
theorem at8_any (a : Option Addr) (n cap : Nat) (zs : List Int) (i : Nat) (w : World) (hn : zs.length = n) (hs : n ≤ 1048576) (hi : i ≤ 1000) (hr : Rd w a zs) (hb : Byt zs) :
    Calls Tryz.prog 31 #[.slice a n cap, .int .i64 i] w fun e w' => e = .returned (.int .i64 (atV8 zs n i)) ∧ w' = w := by
  by_cases hin : i < n
  · obtain ⟨b, off, rfl, hlt, hc⟩ := hr.lt (by intro h; subst h; simp at hn; omega)
    have hcx := hc i (by omega)
    obtain ⟨Z, hZ, hZ1⟩ := byt_at hb i
    rw [hZ] at hcx
    have HV : atV8 zs n i = Z := by unfold atV8; rw [if_pos hin, hZ]; rfl
    rw [HV]
    clear HV hZ hr hc
    have hin' : (i : Int) < (n : Int) := by omega
    go_enter Tryz.func31, Tryz.ntmps31
    go_wp2
    go_ret
    exact ⟨rfl, rfl⟩
  · have HV : atV8 zs n i = (i * 31 + n * 7) % 256 := by unfold atV8; rw [if_neg hin]
    rw [HV]
    clear HV
    have hin' : ¬ (i : Int) < (n : Int) := by omega
    go_enter Tryz.func31, Tryz.ntmps31
    go_wp2
    go_ret
    exact ⟨ret_int (by omega), rfl⟩
end
end Go.Proofs.YtbjfihabkpianaaGreatDoor
