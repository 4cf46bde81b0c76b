/-
  Joined: TruncI, ChgTruncate, WrapI.
-/
import Derived.Test.YtnfplimhhjpbkaaGreatDoorJ44T
import Derived.Test.YtnfplimhhjpbkaaGreatDoorJ46T
namespace Go.Proofs.YtnfplimhhjpbkaaGreatDoor
section
open Go.RowKit
theorem eMeth_no {w w' : World} {nx : Int} {ds : List InoD} {c : Int} (hc : c ≠ 0) {ra : Option Addr} {rn rc : Nat} {rx : Int} (hb : Below w.heap.size w w') : EMeth w nx ds c (.returned (.tuple #[.agg #[.slice ra rn rc, .int .i64 rx], .iface 136 (.int .i64 c)])) w' :=
  ⟨ra, rn, rc, rx, by rw [errV_some hc], hb, fun h => absurd h hc⟩
theorem eMeth_yes {w W V : World} {nx : Int} {ds : List InoD} {a : Option Addr} {n cc : Nat} {R : Nat} {u0 u1 : Value} (h : TabAt W nx ds (.agg #[.slice a n cc, .int .i64 nx]) V) (hb : Below w.heap.size w W) (hR : w.heap.size ≤ R) (hz : Blk W R 26 #[u0, u1]) : EMeth w nx ds 0 (.returned (.tuple #[.agg #[.slice a n cc, .int .i64 nx], .nilIface])) ((V.setCell ⟨R, 0, none⟩ (.slice a n cc)).setCell ⟨R, 1, none⟩ (.int .i64 nx)) := by
  obtain ⟨a', c', js, hv, hq, hbV⟩ := h
  have h1 := hq.boxed (hb.trans (hbV.mono hb.size)) hR hz.lt (.slice a n cc) (.int .i64 nx)
  exact ⟨a, n, cc, nx, rfl, h1.2, fun _ => ⟨a', c', js, hv, h1.1, h1.2⟩⟩
/-- The inode whose bytes were put anew. -/
theorem inoG_data {W V : World} {B T : Nat} {D : InoD} {v1 v2 v3 v' : Value} {m : Nat} {zs : List Int} (g : InoG W B T D v1 v2 v3) (hk : KpT W V [86, 89]) (ho : OwnV 0 V v' m zs) (hb : Byt zs) : InoG V 0 V.heap.size { D with data := zs } v' v2 v3 := by
  have h2 : OwnQ 86 V v2 D.ents.length (eP D.ents) := row_kp g.ents hk (by decide)
  have h3 : OwnQ 89 V v3 D.attrs.length (aP D.attrs) := row_kp g.attrs hk (by decide)
  have hl := ho.len
  subst hl
  refine ⟨ho, hb, h2, h3, fun m hm => ⟨Nat.zero_le _, ?_⟩⟩
  rcases hm with hm | hm | hm
  · exact (World.ownsRow.lt ho m hm).2
  · exact (World.ownsRow.lt h2 m hm).2
  · exact (World.ownsRow.lt h3 m hm).2
theorem KpT.tr {W W1 W2 : World} {ts : List TypeId} (h : KpT W W1 ts) (k : KpT W1 W2 ts) : KpT W W2 ts := fun B cur t fr hB hm => by
  have h1 := h B cur t fr hB hm
  exact (k B cur t fr (h1.trans hB) hm).trans h1
theorem tree_data {nx : Int} {ds : List InoD} (h : treeD nx ds = true) : ∀ D ∈ ds, D.data.length ≤ 100 := fun D hD => (ok_parts ((tabD_ok (treeD_parts h).1).2.2.2.2.1 D hD).1).2.2.2.2.1
theorem byt_size {d : List Int} (h : Byt d) (k : Nat) : Byt (sizeTo d k) := by
  unfold sizeTo
  intro z hz
  have h1 := List.mem_of_mem_take hz
  rcases List.mem_append.1 h1 with h1 | h1
  · exact h z h1
  · have := (List.mem_replicate.1 h1).2
    subst this
    decide
theorem sizeTo_len (d : List Int) (k : Nat) : (sizeTo d k).length = k := by unfold sizeTo; simp; omega
theorem badK_mem {kd : Int} {ds : List InoD} {s : ByteArray} (h : (badK kd ds s).2 = 0) : (badK kd ds s).1 ∈ ds := by
  unfold badK at h ⊢
  split at h
  · simp at h
  · rename_i hc
    rw [if_neg hc]
    revert h
    unfold statD
    split
    · split
      · intro h; simp at h
      · rename_i D hD
        intro _
        exact (look_mem hD).1
    · rename_i hc
      intro h
      exact absurd h hc
/-- What truncate answers. -/
def truncC (ds : List InoD) (p : ByteArray) (k : Int) : Int := if ¬ (0 ≤ k ∧ k ≤ 100) then 1 else (badK 2 ds p).2
def truncT (ds : List InoD) (p : ByteArray) (k : Int) : List InoD := setD ds { (badK 2 ds p).1 with data := sizeTo (badK 2 ds p).1.data k.toNat }
set_option maxRecDepth 100000 in
set_option maxHeartbeats 4000000 in
theorem truncM (a : Option Addr) (n cap : Nat) (nx : Int) (rs : List InoR) (p q : ByteArray) (k : Int) (da : Option Addr) (dn dc : Nat) (an av : ByteArray) (w : World) (ht : TR w a n rs) (hK : ∀ r ∈ rs, r.D.kind = 1 ∨ r.D.kind = 2) (hwf : ∀ r ∈ rs, (Lit.int .i64 r.D.ino).wf = true) (hwe : ∀ r ∈ rs, ∀ e ∈ r.D.ents, (Lit.int .i64 e.2).wf = true) (hs : p.size ≤ 4000000) (hD : ∀ r ∈ rs, r.D.data.length ≤ 100) :
    Calls Tryz.prog 181 #[.agg #[.slice a n cap, .int .i64 nx], .agg #[.string p, .string q, .int .i64 k, .slice da dn dc, .string an, .string av]] w fun e w' => EMeth w nx (truncT (rs.map InoR.D) p k) (truncC (rs.map InoR.D) p k) e w' := by
  have B0 : Below w.heap.size w (((w.alloc (.cells #[.slice a n cap, .int .i64 nx] 26)).alloc (.cells #[.string p, .string q, .int .i64 k, .slice da dn dc, .string an, .string av] 96)).alloc (.cells #[.slice none 0 0, .int .i64 0] 26)) := (((Below.refl _ w).alloc (Nat.le_refl _) _).alloc (by simp) _).alloc (by simp; omega) _
  have zT := ((Blk.new w 26 #[.slice a n cap, .int .i64 nx]).alloc (.cells #[.string p, .string q, .int .i64 k, .slice da dn dc, .string an, .string av] 96)).alloc (.cells #[.slice none 0 0, .int .i64 0] 26)
  have zC := (Blk.new (w.alloc (.cells #[.slice a n cap, .int .i64 nx] 26)) 96 #[.string p, .string q, .int .i64 k, .slice da dn dc, .string an, .string av]).alloc (.cells #[.slice none 0 0, .int .i64 0] 26)
  have zR := Blk.new ((w.alloc (.cells #[.slice a n cap, .int .i64 nx] 26)).alloc (.cells #[.string p, .string q, .int .i64 k, .slice da dn dc, .string an, .string av] 96)) 26 #[.slice none 0 0, .int .i64 0]
  simp only [World.size_alloc] at zC zR
  obtain ⟨ds, hds⟩ : ∃ ds, rs.map InoR.D = ds := ⟨_, rfl⟩
  rw [hds]
  have HDS : Hid _ := hds
  obtain ⟨CO, hCO⟩ : ∃ c, truncC ds p k = c := ⟨_, rfl⟩
  obtain ⟨TT, hTT⟩ : ∃ c, truncT ds p k = c := ⟨_, rfl⟩
  rw [hCO, hTT]
  unfold truncC at hCO
  unfold truncT at hTT
  have c2 := zC.cell 2
  have r0 := zR.cell 0
  have r1 := zR.cell 1
  have f0 := zR.frozen 0
  have f1 := zR.frozen 1
  simp at c2 r0 r1
  by_cases hk : ¬ (0 ≤ k ∧ k ≤ 100)
  · rw [if_pos hk] at hCO
    subst hCO
    have dd0 := zR.cell 0
    have dd1 := zR.cell 1
    simp at dd0 dd1
    have hend : Hid (EMeth w nx TT 1 (.returned (.tuple #[.agg #[.slice none 0 0, .int .i64 0], .iface 136 (.int .i64 1)])) (((w.alloc (.cells #[.slice a n cap, .int .i64 nx] 26)).alloc (.cells #[.string p, .string q, .int .i64 k, .slice da dn dc, .string an, .string av] 96)).alloc (.cells #[.slice none 0 0, .int .i64 0] 26))) := eMeth_no (by decide) B0
    clear zT zC zR B0 hTT HDS hds ht hK hwf hwe hD
    go_enter Tryz.func181, Tryz.ntmps181
    by_cases hk0 : k < 0
    · go_wp2
      refine bodyPost_ret (v := .tuple #[.agg #[.slice none 0 0, .int .i64 0], .iface 136 (.int .i64 1)]) (by simp [results, Tryz.f181, go_sem, dd0, dd1]) rfl ?_
      exact hend.out
    · have hk1 : k > 100 := by omega
      go_wp2
      refine bodyPost_ret (v := .tuple #[.agg #[.slice none 0 0, .int .i64 0], .iface 136 (.int .i64 1)]) (by simp [results, Tryz.f181, go_sem, dd0, dd1]) rfl ?_
      exact hend.out
  rw [if_neg hk] at hCO
  obtain ⟨kn, rfl⟩ : ∃ kn : Nat, k = (kn : Int) := ⟨k.toNat, by omega⟩
  have hkn : kn ≤ 100 := by omega
  have hk0 : ¬ (kn : Int) < 0 := by omega
  have hk1 : ¬ (kn : Int) > 100 := by omega
  rw [Int.toNat_natCast] at hTT
  clear hk
  have hcF := fun (W : World) (hW : Below w.heap.size w W) => fileI a n cap nx rs p W (ht.keep hW) hK hwf hwe hs
  have HSM : Hid _ := ht.small
  have HLEN : Hid _ := ht.len
  have HNN : Hid _ := ht.n
  have HRD : Hid _ := ht.rd
  have HWF : Hid _ := hwf
  have HD1 : Hid _ := hD
  rw [hds] at hcF
  have HMEM : Hid _ := @badK_mem 2 ds p
  obtain ⟨D, c, hDc⟩ : ∃ D c, badK 2 ds p = (D, c) := ⟨_, _, rfl⟩
  rw [hDc] at hcF hCO hTT HMEM
  dsimp only at hcF hCO hTT HMEM
  subst hCO
  have HTT : Hid _ := hTT
  have t0 := zT.cell 0
  have t1 := zT.cell 1
  have c0 := zC.cell 0
  simp at t0 t1 c0
  clear hDc hTT ht hK hwf hwe hds hD
  go_enter Tryz.func181, Tryz.ntmps181
  go_wp2_with fail
  obtain ⟨Wz, hWz⟩ : ∃ W, (((w.alloc (.cells #[.slice a n cap, .int .i64 nx] 26)).alloc (.cells #[.string p, .string q, .int .i64 (kn : Int), .slice da dn dc, .string an, .string av] 96)).alloc (.cells #[.slice none 0 0, .int .i64 0] 26)) = W := ⟨_, rfl⟩
  rw [hWz] at B0 zT zC zR c0 c2 r0 r1 f0 f1 t0 t1 ⊢
  clear hWz
  (with_reducible refine (hcF Wz B0).mono ?_)
  rintro e w2 ⟨b1, d1, b2, d2, b3, d3, rfl, g2, bb2⟩
  have zt := (zT.keep bb2).alloc (.cells #[.int .i64 D.ino, .int .i64 D.kind, .int .i64 D.links, .slice b1 D.data.length d1, .slice b2 D.ents.length d2, .slice b3 D.attrs.length d3] 66)
  have zc := (zC.keep bb2).alloc (.cells #[.int .i64 D.ino, .int .i64 D.kind, .int .i64 D.links, .slice b1 D.data.length d1, .slice b2 D.ents.length d2, .slice b3 D.attrs.length d3] 66)
  have zr := (zR.keep bb2).alloc (.cells #[.int .i64 D.ino, .int .i64 D.kind, .int .i64 D.links, .slice b1 D.data.length d1, .slice b2 D.ents.length d2, .slice b3 D.attrs.length d3] 66)
  have hb2 := B0.trans (bb2.mono B0.size)
  have hb3 := hb2.alloc hb2.size (.cells #[.int .i64 D.ino, .int .i64 D.kind, .int .i64 D.links, .slice b1 D.data.length d1, .slice b2 D.ents.length d2, .slice b3 D.attrs.length d3] 66)
  have hbA : Below w2.heap.size w2 (w2.alloc (.cells #[.int .i64 D.ino, .int .i64 D.kind, .int .i64 D.links, .slice b1 D.data.length d1, .slice b2 D.ents.length d2, .slice b3 D.attrs.length d3] 66)) := (Below.refl _ w2).alloc (Nat.le_refl _) _
  have zX := Blk.new w2 66 #[.int .i64 D.ino, .int .i64 D.kind, .int .i64 D.links, .slice b1 D.data.length d1, .slice b2 D.ents.length d2, .slice b3 D.attrs.length d3]
  have g3 := g2.keep (Nat.le_refl _) hbA
  have hsR : w.heap.size + 1 + 1 < w2.heap.size := (zR.keep bb2).lt
  have HBZ : Hid (w.heap.size ≤ Wz.heap.size) := B0.size
  obtain ⟨X, hX⟩ : ∃ X, w2.heap.size = X := ⟨_, rfl⟩
  obtain ⟨W3, hW3⟩ : ∃ W, w2.alloc (.cells #[.int .i64 D.ino, .int .i64 D.kind, .int .i64 D.links, .slice b1 D.data.length d1, .slice b2 D.ents.length d2, .slice b3 D.attrs.length d3] 66) = W := ⟨_, rfl⟩
  rw [hW3] at zt zc zr hb3 zX g3
  rw [hX] at zX g3
  have hX0 := hX
  have HZT : Hid _ := zt
  have HZC : Hid _ := zc
  have HZR : Hid _ := zr
  have HB3 : Hid _ := hb3
  have HG3 : Hid _ := g3
  have HZX : Hid _ := zX
  have r0 := zr.cell 0
  have r1 := zr.cell 1
  have f0 := zr.frozen 0
  have f1 := zr.frozen 1
  have c2 := zc.cell 2
  obtain ⟨x0, x1, x2, x3, x4, x5⟩ := zX.six
  have fx := zX.frozen 3
  simp at r0 r1 c2
  clear hcF zT zC zR g2 bb2 hb2 hbA B0 zt zc zr hb3 g3 zX
  by_cases hc0 : c = 0
  · subst hc0
    rw [errV_zero]
    have hDm := HMEM.out rfl
    obtain ⟨rD, hrD, hrDD⟩ : ∃ r ∈ rs, r.D = D := by
      rw [← HDS.out] at hDm
      obtain ⟨r, hr, h⟩ := List.mem_map.1 hDm
      exact ⟨r, hr, h⟩
    have hsD : InoSmall D := hrDD ▸ HSM.out rD hrD
    have hwD : (Lit.int .i64 D.ino).wf = true := hrDD ▸ HWF.out rD hrD
    have hcZ := sizedI 0 (.slice b1 D.data.length d1) D.data.length kn D.data W3 HG3.out.data (by have := hrDD ▸ HD1.out rD hrD; omega) (by omega) (Nat.zero_le _)
    have HSD : Hid _ := hsD
    have HWD : Hid _ := hwD
    clear hDm hrD hrDD hsD hwD
    go_wp2_with fail
    (with_reducible refine hcZ.mono ?_)
    rintro e w4 ⟨v4, rfl, o4, g4⟩
    obtain ⟨a4, c4, rfl⟩ := ownShape o4
    have zt4 := Blk.row HZT.out (by decide) HG3.out.data g4
    have zr4 := Blk.row HZR.out (by decide) HG3.out.data g4
    have zX4 := Blk.row HZX.out (by decide) HG3.out.data g4
    have hk4 : KpT W3 w4 [86, 89] := KpT.row g4 HG3.out.data (by decide)
    have hb4 : Below w.heap.size w w4 := HB3.out.grown g4 HB3.out.size (fun m hm => by have h1 := HG3.out.within m (.inl hm); have h2 := HBZ.out; omega)
    have fx4 := zX4.frozen 3
    have xx3 := zX4.cell 3
    simp at xx3
    have zX5 := zX4.set 3 (.slice a4 kn c4)
    have zt5 := zt4.other (B' := X) (by omega) 3 (.slice a4 kn c4)
    have zr5 := zr4.other (B' := X) (by omega) 3 (.slice a4 kn c4)
    have hk5 : KpT w4 (w4.setCell ⟨X, 3, none⟩ (.slice a4 kn c4)) [86, 89, 5] := KpT.grown (gr_setC w4 X 3 _) zX4 (by decide)
    have o5 : OwnV 0 (w4.setCell ⟨X, 3, none⟩ (.slice a4 kn c4)) (.slice a4 kn c4) kn (sizeTo D.data kn) := row_kp o4 hk5 (by decide)
    have g5 := inoG_data HG3.out (hk4.tr (fun B cur t fr h1 h2 => hk5 B cur t fr h1 (List.mem_append_left [5] h2))) o5 (byt_size HG3.out.byt kn)
    have hb5 := hb4.setCell (p := ⟨X, 3, none⟩) (show w.heap.size ≤ X by omega) (.slice a4 kn c4)
    obtain ⟨W5, hW5⟩ : ∃ W, w4.setCell ⟨X, 3, none⟩ (.slice a4 kn c4) = W := ⟨_, rfl⟩
    rw [hW5] at zX5 zt5 zr5 g5 hb5
    have hrd5 : InoRd W5 { D with data := sizeTo D.data kn } a4 b2 b3 := InoG.rds (B := 0) (T := W5.heap.size) (c1 := c4) (c2 := d2) (c3 := d3) (by show InoG W5 0 W5.heap.size _ (.slice a4 (sizeTo D.data kn).length c4) (.slice b2 D.ents.length d2) (.slice b3 D.attrs.length d3); rw [sizeTo_len]; exact g5)
    have hsx : InoSmall { D with data := sizeTo D.data kn } := ⟨by rw [sizeTo_len]; omega, HSD.out.ents, HSD.out.attrs, HSD.out.entsz, HSD.out.attrsz⟩
    have hcI := setI a n cap nx rs { D with data := sizeTo D.data kn } a4 b2 b3 c4 d2 d3 W5 HLEN.out HNN.out HWD.out HWF.out HSM.out hsx (RdI.keep HRD.out hb5) hrd5
    dsimp only at hcI
    rw [sizeTo_len] at hcI
    obtain ⟨x0, x1, x2, x3, x4, x5⟩ := zX5.six
    have t0 := zt5.cell 0
    have t1 := zt5.cell 1
    simp at t0 t1
    have HZR5 : Hid _ := zr5
    have HB5 : Hid _ := hb5
    clear hcZ o4 g4 hk4 hk5 o5 g5 hb4 hb5 hrd5 hsx zt4 zr4 zt5 zr5 zX5 r0 r1 f0 f1 c2
    go_wp2_with fail
    (with_reducible refine hcI.mono ?_)
    intro e w6 hp6
    obtain ⟨v6, rfl, ht6⟩ := hp6.tab
    rw [setD_eq, HDS.out] at ht6
    dsimp only at ht6
    rw [HTT.out] at ht6
    have ht6' := ht6
    obtain ⟨ra, rc, js, rfl, _, b6⟩ := ht6'
    obtain ⟨rn, hrn⟩ : ∃ rn, js.length = rn := ⟨_, rfl⟩
    rw [hrn] at ht6 ⊢
    have HFIN : Hid (EMeth w nx TT 0 (.returned (.tuple #[.agg #[.slice ra rn rc, .int .i64 nx], .nilIface])) ((w6.setCell ⟨w.heap.size + 1 + 1, 0, none⟩ (.slice ra rn rc)).setCell ⟨w.heap.size + 1 + 1, 1, none⟩ (.int .i64 nx))) := eMeth_yes ht6 HB5.out (by omega) HZR5.out
    have zr6 := Blk.keep HZR5.out b6
    have r0 := zr6.cell 0
    have r1 := zr6.cell 1
    have f0 := zr6.frozen 0
    have f1 := zr6.frozen 1
    simp at r0 r1
    have zf := blk2 zr6 (.slice ra rn rc) (.int .i64 nx)
    have dd0 := zf.cell 0
    have dd1 := zf.cell 1
    simp at dd0 dd1
    clear hcI hp6 ht6 zf zr6 b6 x0 x1 x2 x3 x4 x5 t0 t1 hrn
    go_wp2
    refine bodyPost_ret (v := .tuple #[.agg #[.slice ra rn rc, .int .i64 nx], .nilIface]) (by simp [results, Tryz.f181, go_sem, dd0, dd1]) rfl ?_
    exact HFIN.out
  · have hend : Hid (∀ W : World, Below W3.heap.size W3 W → EMeth w nx TT c (.returned (.tuple #[.agg #[.slice none 0 0, .int .i64 0], .iface 136 (.int .i64 c)])) ((W.setCell ⟨w.heap.size + 1 + 1, 0, none⟩ (.slice none 0 0)).setCell ⟨w.heap.size + 1 + 1, 1, none⟩ (.int .i64 0))) := fun W hW => eMeth_no hc0 (((HB3.out.trans (hW.mono HB3.out.size)).setCell (p := ⟨w.heap.size + 1 + 1, 0, none⟩) (by show _ ≤ w.heap.size + 1 + 1; omega) _).setCell (p := ⟨w.heap.size + 1 + 1, 1, none⟩) (by show _ ≤ w.heap.size + 1 + 1; omega) _)
    rw [errV_some hc0]
    have zf := blk2 HZR.out (.slice none 0 0) (.int .i64 0)
    have dd0 := zf.cell 0
    have dd1 := zf.cell 1
    simp at dd0 dd1
    clear hc0 zf x0 x1 x2 x3 x4 x5 fx
    go_wp2
    refine bodyPost_ret (v := .tuple #[.agg #[.slice none 0 0, .int .i64 0], .iface 136 (.int .i64 c)]) (by simp [results, Tryz.f181, go_sem, dd0, dd1]) rfl ?_
    exact hend.out W3 (Below.refl _ _)
end

section
open Go.RowKit
theorem idx_truncate (w : World) : (Instr.index 149 (.agg #[.func (.func 178) #[] #[], .func (.func 179) #[] #[], .func (.func 180) #[] #[], .func (.func 181) #[] #[], .func (.func 182) #[] #[], .func (.func 183) #[] #[], .func (.func 184) #[] #[], .func (.func 185) #[] #[], .func (.func 186) #[] #[]]) (.int .i64 3)).run Tryz.prog w = .ok (.func (.func 181) #[] #[]) w := by kernel_rfl
set_option maxRecDepth 100000 in
set_option maxHeartbeats 4000000 in
theorem changed_truncate (a : Option Addr) (n cap : Nat) (nx : Int) (rs : List InoR) (p q : ByteArray) (k : Int) (da : Option Addr) (dn dc : Nat) (an av : ByteArray) (w : World) (ht : TR w a n rs) (hwf : ∀ r ∈ rs, (Lit.int .i64 r.D.ino).wf = true) (het : EtCell w) (nx' : Int) (ds' : List InoD) (c : Int) (N : Int) (D : List InoD) (C : Int)
    (h1 : treeD nx (rs.map InoR.D) = false → N = nx ∧ D = rs.map InoR.D ∧ C = 1) (h2 : treeD nx (rs.map InoR.D) = true → c ≠ 0 → N = nx ∧ D = rs.map InoR.D ∧ C = c) (h3 : treeD nx (rs.map InoR.D) = true → c = 0 → N = nx' ∧ D = ds' ∧ C = 0)
    (hm : treeD nx (rs.map InoR.D) = true → ∀ W : World, Below w.heap.size w W → Calls Tryz.prog 181 #[.agg #[.slice a n cap, .int .i64 nx], .agg #[.string p, .string q, .int .i64 k, .slice da dn dc, .string an, .string av]] W fun e w' => EMeth W nx' ds' c e w') :
    Calls Tryz.prog 81 #[.agg #[.slice a n cap, .int .i64 nx], .int .i64 3, .agg #[.string p, .string q, .int .i64 k, .slice da dn dc, .string an, .string av]] w fun e w' => TabC w N D C e w' := by
  have B0 : Below w.heap.size w (((w.alloc (.cells #[.slice a n cap, .int .i64 nx] 26)).alloc (.cells #[.string p, .string q, .int .i64 k, .slice da dn dc, .string an, .string av] 96)).alloc (.cells #[.slice none 0 0, .int .i64 0] 26)) := (((Below.refl _ w).alloc (Nat.le_refl _) _).alloc (by simp) _).alloc (by simp; omega) _
  have zT := ((Blk.new w 26 #[.slice a n cap, .int .i64 nx]).alloc (.cells #[.string p, .string q, .int .i64 k, .slice da dn dc, .string an, .string av] 96)).alloc (.cells #[.slice none 0 0, .int .i64 0] 26)
  have zC := (Blk.new (w.alloc (.cells #[.slice a n cap, .int .i64 nx] 26)) 96 #[.string p, .string q, .int .i64 k, .slice da dn dc, .string an, .string av]).alloc (.cells #[.slice none 0 0, .int .i64 0] 26)
  have zR := Blk.new ((w.alloc (.cells #[.slice a n cap, .int .i64 nx] 26)).alloc (.cells #[.string p, .string q, .int .i64 k, .slice da dn dc, .string an, .string av] 96)) 26 #[.slice none 0 0, .int .i64 0]
  simp only [World.size_alloc] at zC zR
  have hcT := treeI a n cap nx rs _ (ht.keep B0) hwf
  go_enter Tryz.func81, Tryz.ntmps81
  go_wp2_with fail
  obtain ⟨W0, hW0⟩ : ∃ W, (((w.alloc (.cells #[.slice a n cap, .int .i64 nx] 26)).alloc (.cells #[.string p, .string q, .int .i64 k, .slice da dn dc, .string an, .string av] 96)).alloc (.cells #[.slice none 0 0, .int .i64 0] 26)) = W := ⟨_, rfl⟩
  rw [hW0] at B0 zT zC zR hcT ⊢
  clear hW0
  (with_reducible refine hcT.mono ?_)
  rintro e w1 ⟨rfl, b1⟩
  clear hcT
  have hb1 := B0.trans (b1.mono B0.size)
  have zt := zT.keep b1
  have zc := zC.keep b1
  have zr := zR.keep b1
  have HT1 : Hid _ := ht.keep hb1
  have HE1 : Hid _ := het.keep hb1
  clear zT zC zR b1 ht het B0
  have t0 := zt.cell 0
  have t1 := zt.cell 1
  simp at t0 t1
  cases htr : treeD nx (rs.map InoR.D) with
  | false =>
    obtain ⟨rfl, rfl, rfl⟩ := h1 htr
    have hcC := copyTab_any a n cap N rs w1 HT1.out.len HT1.out.n HT1.out.small HT1.out.rd
    have HB1 : Hid _ := hb1
    have HZR : Hid _ := zr
    clear h1 h2 h3 hm htr hb1
    go_wp2_with fail
    (with_reducible refine hcC.mono ?_)
    intro e w2 hp2
    obtain ⟨g, rfl, b2, hfin⟩ := copyT hp2 HB1.out (by omega) HZR.out
    have zr2 := Blk.keep HZR.out b2
    have r0 := zr2.cell 0
    have r1 := zr2.cell 1
    have f0 := zr2.frozen 0
    have f1 := zr2.frozen 1
    simp at r0 r1
    have HFIN : Hid _ := hfin w2 (Below.refl _ _) 1
    have zf := blk2 zr2 (.slice (some ⟨g, 0, none⟩) n n) (.int .i64 N)
    have dd0 := zf.cell 0
    have dd1 := zf.cell 1
    simp at dd0 dd1
    clear hcC hp2 hfin zr2 zt zc zr t0 t1 zf
    go_wp2
    refine bodyPost_ret (v := .tuple #[.agg #[.slice (some ⟨g, 0, none⟩) n n, .int .i64 N], .int .i64 1]) (by simp [results, Tryz.f81, go_sem, dd0, dd1]) rfl ?_
    exact HFIN.out
  | true =>
    have hmm := hm htr
    have c0 := zc.cell 0
    have c1 := zc.cell 1
    have c2 := zc.cell 2
    have c3 := zc.cell 3
    have c4 := zc.cell 4
    have c5 := zc.cell 5
    simp at c0 c1 c2 c3 c4 c5
    have HB1 : Hid _ := hb1
    have HZR : Hid _ := zr
    have HZT : Hid _ := zt
    have HZC : Hid _ := zc
    have HMM : Hid _ := hmm
    have HH2 : Hid _ := h2 htr
    have HH3 : Hid _ := h3 htr
    have cC := changesI w1.drew
    have hsz : w.heap.size + 1 + 1 < w1.heap.size := zr.lt
    have hK : Hid (∀ W : World, Below w1.heap.size w1 W → W.cell? ⟨w.heap.size, 0, none⟩ = some (.slice a n cap) ∧ W.cell? ⟨w.heap.size, 1, none⟩ = some (.int .i64 nx) ∧ W.cell? ⟨w.heap.size + 1, 0, none⟩ = some (.string p) ∧ W.cell? ⟨w.heap.size + 1, 1, none⟩ = some (.string q) ∧ W.cell? ⟨w.heap.size + 1, 2, none⟩ = some (.int .i64 k) ∧ W.cell? ⟨w.heap.size + 1, 3, none⟩ = some (.slice da dn dc) ∧ W.cell? ⟨w.heap.size + 1, 4, none⟩ = some (.string an) ∧ W.cell? ⟨w.heap.size + 1, 5, none⟩ = some (.string av)) := fun W hW => by
      have z1 := Blk.keep HZT.out hW
      have z2 := Blk.keep HZC.out hW
      exact ⟨z1.cell 0, z1.cell 1, z2.cell 0, z2.cell 1, z2.cell 2, z2.cell 3, z2.cell 4, z2.cell 5⟩
    clear h1 h2 h3 hm htr hmm zt zc zr hb1
    go_upto_region 3 with fail
    have n0 : w1.heap.size ≠ w.heap.size := by omega
    have n1 : w1.heap.size ≠ w.heap.size + 1 := by omega
    have cC2 := changesI (w1.alloc (.cells #[.slice none 0 0, .int .i64 0] 26)).drew
    have zW1 := Blk.new w1 26 #[.slice none 0 0, .int .i64 0]
    have hix := idx_truncate
    go_cut [8, 9] from 8 to 31 (fun bx er wx => ∃ (A : Nat) (ra : Option Addr) (rn rc : Nat) (rx : Int), bx = .pointer (some ⟨A, 0, none⟩) ∧ er = errV c ∧ Hid (CHR w1 nx' ds' c A (.slice ra rn rc) (.int .i64 rx) wx))
    case first =>
      go_region_held3 (fun W : World => W.cell? ⟨w.heap.size, 0, none⟩ = some (.slice a n cap) ∧ W.cell? ⟨w.heap.size, 1, none⟩ = some (.int .i64 nx) ∧ W.cell? ⟨w.heap.size + 1, 0, none⟩ = some (.string p) ∧ W.cell? ⟨w.heap.size + 1, 1, none⟩ = some (.string q) ∧ W.cell? ⟨w.heap.size + 1, 2, none⟩ = some (.int .i64 k) ∧ W.cell? ⟨w.heap.size + 1, 3, none⟩ = some (.slice da dn dc) ∧ W.cell? ⟨w.heap.size + 1, 4, none⟩ = some (.string an) ∧ W.cell? ⟨w.heap.size + 1, 5, none⟩ = some (.string av)) (go_keep) (first
        | (go_at_call 132; (with_reducible refine cC.mono ?_); rintro e w10 ⟨rfl, b10⟩; have B10 : Below w1.heap.size w1 w10 := (Below.refl _ w1).drew.trans b10; have K10 := hK.out w10 B10; obtain ⟨p0, p1, p2, p3, p4, p5, p6, p7⟩ := K10; have n2 : w10.heap.size ≠ w.heap.size := (by have := B10.size; omega); have n3 : w10.heap.size ≠ w.heap.size + 1 := (by have := B10.size; omega); have hm10 := HMM.out w10 (HB1.out.trans (B10.mono HB1.out.size)); have hm10a := HMM.out (w10.alloc (.cells #[.slice none 0 0, .int .i64 0] 26)) ((HB1.out.trans (B10.mono HB1.out.size)).alloc (by have := HB1.out.size; have := B10.size; omega) _))
        | (go_at_call 132; (with_reducible refine cC2.mono ?_); rintro e w11 ⟨rfl, b11⟩; have B11 : Below w1.heap.size w1 w11 := ((Below.refl _ w1).alloc (Nat.le_refl _) _).drew.trans (b11.mono (by show _ ≤ (w1.alloc _).heap.size; simp)); have K11 := hK.out w11 B11; obtain ⟨p0, p1, p2, p3, p4, p5, p6, p7⟩ := K11; have z11 : Blk w11 w1.heap.size 26 #[.slice none 0 0, .int .i64 0] := Blk.keep (Blk.drew zW1) b11; have hm11 := HMM.out w11 (HB1.out.trans (B11.mono HB1.out.size)))
        | (go_at_call 181; (with_reducible refine hm10.mono ?_); rintro e w12 ⟨ra, rn, rc, rx, rfl, b12, t12⟩; have B12 : Below w1.heap.size w1 w12 := B10.trans (b12.mono B10.size); have K12 := hK.out w12 B12; obtain ⟨q0, q1, q2, q3, q4, q5, q6, q7⟩ := K12)
        | (go_at_call 181; (with_reducible refine hm10a.mono ?_); rintro e w13 ⟨ra, rn, rc, rx, rfl, b13, t13⟩; have B13 : Below w1.heap.size w1 w13 := (B10.alloc B10.size _).trans (b13.mono (by have := B10.size; simp; omega)); have z13 := (Blk.new w10 26 #[.slice none 0 0, .int .i64 0]).keep b13; have u0 := z13.cell 0; have u1 := z13.cell 1; have x0 := z13.frozen 0; have x1 := z13.frozen 1; simp at u0 u1; have K13 := hK.out w13 B13; obtain ⟨q0, q1, q2, q3, q4, q5, q6, q7⟩ := K13)
        | (go_at_call 181; (with_reducible refine hm11.mono ?_); rintro e w14 ⟨ra, rn, rc, rx, rfl, b14, t14⟩; have B14 : Below w1.heap.size w1 w14 := B11.trans (b14.mono B11.size); have z14 := z11.keep b14; have u0 := z14.cell 0; have u1 := z14.cell 1; have x0 := z14.frozen 0; have x1 := z14.frozen 1; simp at u0 u1; have K14 := hK.out w14 B14; obtain ⟨q0, q1, q2, q3, q4, q5, q6, q7⟩ := K14))
      all_goals (go_wp2_with fail; go_meet)
      all_goals first
        | (have h := chr_new B12 b12 B10.size t12; exact ⟨_, _, _, _, _, rfl, rfl, h⟩)
        | (have h := chr_old B13 B10.size z13 (by simp) t13; exact ⟨_, _, _, _, _, rfl, rfl, h⟩)
        | (have h := chr_old B14 (Nat.le_refl _) z14 (Blk.lt z11) t14; exact ⟨_, _, _, _, _, rfl, rfl, h⟩)
        | fail
    case rest =>
      obtain ⟨A, ra, rn, rc, rx, rfl, rfl, hR⟩ := hcut
      obtain ⟨Wc, hwc⟩ : ∃ W, W = wc := ⟨_, rfl⟩
      subst hwc
      clear t0 t1 c0 c1 c2 c3 c4 c5 cC cC2 zW1 hK HMM n0 n1
      have zt := Blk.keep HZT.out hR.out.b
      have zr := Blk.keep HZR.out hR.out.b
      have hbc := HB1.out.trans (hR.out.b.mono HB1.out.size)
      have t0 := zt.cell 0
      have t1 := zt.cell 1
      simp at t0 t1
      by_cases hc0 : c = 0
      · obtain ⟨rfl, rfl, rfl⟩ := HH3.out hc0
        subst hc0
        rw [errV_zero]
        have HFIN : Hid _ := methT (hR.out.tab rfl) HB1.out (by omega) HZR.out Wc (Below.refl _ _)
        have a0 := hR.out.z.cell 0
        have a1 := hR.out.z.cell 1
        have r0 := zr.cell 0
        have r1 := zr.cell 1
        have f0 := zr.frozen 0
        have f1 := zr.frozen 1
        simp at a0 a1 r0 r1
        have zf := blk2 zr (.slice ra rn rc) (.int .i64 rx)
        have dd0 := zf.cell 0
        have dd1 := zf.cell 1
        simp at dd0 dd1
        clear zt zr zf hbc HH2 HH3 HT1 HE1 t0 t1
        go_wp2
        refine bodyPost_ret (v := .tuple #[.agg #[.slice ra rn rc, .int .i64 rx], .int .i64 0]) (by simp [results, Tryz.f81, go_sem, dd0, dd1]) rfl ?_
        exact HFIN.out
      · obtain ⟨rfl, rfl, rfl⟩ := HH2.out hc0
        rw [errV_some hc0]
        have hTc := HT1.out.keep hR.out.b
        have hEc := EtCell.keep HE1.out hR.out.b
        have hcC := copyTab_any a n cap N rs Wc hTc.len hTc.n hTc.small hTc.rd
        have HZ : Hid _ := zr
        have HBC : Hid _ := hbc
        have HEC : Hid _ := hEc
        have HC0 : Hid _ := hc0
        clear zt zr hbc HH2 HH3 HT1 HE1 hTc hEc hc0
        go_wp2_with fail
        (with_reducible refine hcC.mono ?_)
        intro e w2 hp2
        obtain ⟨g, rfl, b2, hfin⟩ := copyT hp2 HBC.out (by omega) HZ.out
        have hcO := codeOfI C w2 (EtCell.keep HEC.out b2)
        rw [errV_some HC0.out] at hcO
        clear hcC hp2 t0 t1
        go_wp2_with fail
        (with_reducible refine hcO.mono ?_)
        rintro e w3 ⟨rfl, b3⟩
        have zr3 := (Blk.keep HZ.out b2).keep b3
        have r0 := zr3.cell 0
        have r1 := zr3.cell 1
        have f0 := zr3.frozen 0
        have f1 := zr3.frozen 1
        simp at r0 r1
        have HFIN : Hid _ := hfin w3 b3 C
        have zf := blk2 zr3 (.slice (some ⟨g, 0, none⟩) n n) (.int .i64 N)
        have dd0 := zf.cell 0
        have dd1 := zf.cell 1
        simp at dd0 dd1
        clear hcO hfin zr3 zf
        go_wp2
        refine bodyPost_ret (v := .tuple #[.agg #[.slice (some ⟨g, 0, none⟩) n n, .int .i64 N], .int .i64 C]) (by simp [results, Tryz.f81, go_sem, dd0, dd1]) rfl ?_
        exact HFIN.out
end

section
open Go.RowKit
theorem tabC_box {w W V : World} {nx : Int} {ds : List InoD} {c : Int} {e : Ending} {R : Nat} {u0 u1 : Value} (h : TabC W nx ds c e V) (hb : Below w.heap.size w W) (hR : w.heap.size ≤ R) (hz : Blk W R 26 #[u0, u1]) : ∃ (a : Option Addr) (m cc : Nat), e = .returned (.tuple #[.agg #[.slice a m cc, .int .i64 nx], .int .i64 c]) ∧ Blk V R 26 #[u0, u1] ∧ TabC w nx ds c (.returned (.tuple #[.agg #[.slice a m cc, .int .i64 nx], .int .i64 c])) ((V.setCell ⟨R, 0, none⟩ (.slice a m cc)).setCell ⟨R, 1, none⟩ (.int .i64 nx)) := by
  obtain ⟨a, cc, js, rfl, hq, hbV⟩ := h
  have := hq.boxed (hb.trans (hbV.mono hb.size)) hR hz.lt (.slice a js.length cc) (.int .i64 nx)
  exact ⟨a, js.length, cc, rfl, hz.keep hbV, a, cc, js, rfl, this.1, this.2⟩
set_option maxRecDepth 100000 in
set_option maxHeartbeats 4000000 in
theorem wrap_Truncate (a : Option Addr) (n cap : Nat) (nx : Int) (s : ByteArray) (k : Int) (w : World) (N : Int) (D : List InoD) (C : Int)
    (hc : ∀ W : World, Below w.heap.size w W → Calls Tryz.prog 81 #[.agg #[.slice a n cap, .int .i64 nx], .int .i64 3, .agg #[.string s, .string ⟨#[]⟩, .int .i64 k, .slice none 0 0, .string ⟨#[]⟩, .string ⟨#[]⟩]] W fun e w' => TabC W N D C e w') :
    Calls Tryz.prog 54 #[.agg #[.slice a n cap, .int .i64 nx], .string s, .int .i64 k] w fun e w' => TabC w N D C e w' := by
  have B0 : Below w.heap.size w ((w.alloc (.cells #[.slice a n cap, .int .i64 nx] 26)).alloc (.cells #[.slice none 0 0, .int .i64 0] 26)) := ((Below.refl _ w).alloc (Nat.le_refl _) _).alloc (by simp) _
  have zR := Blk.new (w.alloc (.cells #[.slice a n cap, .int .i64 nx] 26)) 26 #[.slice none 0 0, .int .i64 0]
  simp only [World.size_alloc] at zR
  go_enter Tryz.func54, Tryz.ntmps54
  go_wp2_with fail
  obtain ⟨W0, hW0⟩ : ∃ W, ((w.alloc (.cells #[.slice a n cap, .int .i64 nx] 26)).alloc (.cells #[.slice none 0 0, .int .i64 0] 26)) = W := ⟨_, rfl⟩
  rw [hW0] at B0 zR ⊢
  clear hW0
  (with_reducible refine (hc W0 B0).mono ?_)
  intro e w2 hp
  obtain ⟨ra, rn, rc, rfl, zz, hfin⟩ := tabC_box hp B0 (by omega) zR
  have HFIN : Hid (TabC w N D C (.returned (.tuple #[.agg #[.slice ra rn rc, .int .i64 N], .int .i64 C])) ((w2.setCell ⟨w.heap.size + 1, 0, none⟩ (.slice ra rn rc)).setCell ⟨w.heap.size + 1, 1, none⟩ (.int .i64 N))) := hfin
  have r0 := zz.cell 0
  have r1 := zz.cell 1
  have f0 := zz.frozen 0
  have f1 := zz.frozen 1
  simp at r0 r1
  have zf := blk2 zz (.slice ra rn rc) (.int .i64 N)
  have dd0 := zf.cell 0
  have dd1 := zf.cell 1
  simp at dd0 dd1
  clear hp hfin zf zz zR B0 hc
  go_wp2
  refine bodyPost_ret (v := .tuple #[.agg #[.slice ra rn rc, .int .i64 N], .int .i64 C]) (by simp [results, Tryz.f54, go_sem, dd0, dd1]) rfl ?_
  exact HFIN.out
end
end Go.Proofs.YtnfplimhhjpbkaaGreatDoor
