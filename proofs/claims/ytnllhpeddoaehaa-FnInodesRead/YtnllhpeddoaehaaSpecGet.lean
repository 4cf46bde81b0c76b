/-
  What the specification's GetInode answers.
-/
import Derived.Test.YtnllhpeddoaehaaGetX
import Derived.Deep.DeepCutAuto
import Derived.Deep.CutBlock
namespace Go.Proofs.Ytnllhpeddoaehaa
open Go.RowKit

theorem row_form {B : Nat} {W : World} {v : Value} {e : TypeId} {n : Nat} {ps : List VP} (h : W.ownsRow B e 2 v n (pv ps)) : ∃ a c, v = .slice a n c ∧ RdP W a ps := by
  have hl : ps.length = n := by have := h.1; rw [pv_length] at this; omega
  rcases h.2 with ⟨rfl, h0⟩ | ⟨g, c, cur, rfl, _, rest⟩
  · subst h0
    exact ⟨none, 0, rfl, .inl (List.length_eq_zero_iff.1 hl)⟩
  · have ho : OwnP e W g n c ps := ⟨h.1, .inr ⟨g, c, cur, rfl, Nat.zero_le _, rest⟩⟩
    exact ⟨some ⟨g, 0, none⟩, c, rfl, ho.rd⟩
theorem gA_none {zs : List Int} (h : (gE zs).2 = none) : (gA zs).2 = none := by
  have h6 : (g6 zs).2 = none := by unfold g6; rw [h]; rfl
  have h0 : (rdA zs (g6 zs).2 0).2 = none := h6
  exact rdA_none h0 (Nat.zero_le _)

theorem strZ_byt' (s : ByteArray) : Byt (strZ s) := by
  intro z hz
  simp only [strZ, List.mem_map] at hz
  obtain ⟨b, _, rfl⟩ := hz
  have := b.toNat_lt
  omega
theorem KpT.trans {W W1 W' : World} {ts : List TypeId} (h : KpT W W1 ts) (k : KpT W1 W' ts) : KpT W W' ts := fun B cur t fr hB ht => by
  have e := h B cur t fr hB ht
  rw [k B cur t fr (e.trans hB) ht, e]
theorem six_kp {W : World} {H : Nat} {xs : Array Value} (h : Blk W H 27 xs) (v0 v1 v2 v3 v4 v5 : Value) : KpT W ((((((W.setCell ⟨H, 0, none⟩ v0).setCell ⟨H, 1, none⟩ v1).setCell ⟨H, 2, none⟩ v2).setCell ⟨H, 3, none⟩ v3).setCell ⟨H, 4, none⟩ v4).setCell ⟨H, 5, none⟩ v5) [5, 35, 77] :=
  (((((KpT.grown (gr_setC _ H 0 v0) h (by decide)).trans (KpT.grown (gr_setC _ H 1 v1) (h.set 0 v0) (by decide))).trans (KpT.grown (gr_setC _ H 2 v2) ((h.set 0 v0).set 1 v1) (by decide))).trans (KpT.grown (gr_setC _ H 3 v3) (((h.set 0 v0).set 1 v1).set 2 v2) (by decide))).trans (KpT.grown (gr_setC _ H 4 v4) ((((h.set 0 v0).set 1 v1).set 2 v2).set 3 v3) (by decide))).trans (KpT.grown (gr_setC _ H 5 v5) (((((h.set 0 v0).set 1 v1).set 2 v2).set 3 v3).set 4 v4) (by decide))

/-- The list and the place behind a loop that stops where something was not whole. -/
def EndE (zs : List Int) (es : List (ByteArray × Int)) (st : Option Nat) : Prop := st = (gE zs).2 ∧ (st = none ∨ es = (gE zs).1)
def EndA (zs : List Int) (ats : List (ByteArray × ByteArray)) (st : Option Nat) : Prop := st = (gA zs).2 ∧ (st = none ∨ ats = (gA zs).1)

set_option maxRecDepth 100000 in
set_option maxHeartbeats 8000000 in
theorem getS (a : Option Addr) (n cap : Nat) (zs : List Int) (w : World) (hn : zs.length = n) (hs : n ≤ 1048576) (hcap : n ≤ cap) (hr : Rd w a zs) (hb : Byt zs) :
    Calls Try.prog 22 #[.slice a n cap] w fun e w' => GetPost w.heap.size w' zs e ∧ Below w.heap.size w w' := by
  have cN := fun (W : World) (st : Option Nat) (h : RS W (w.heap.size + 1) a n cap st) (hB : Below w.heap.size w W) => l3Num_any (w.heap.size + 1) a n cap zs st W hn (by omega) (hr.keep hB) hb h
  have cT := fun (W : World) (st : Option Nat) (h : RS W (w.heap.size + 1) a n cap st) (hB : Below w.heap.size w W) => l3Text_any (w.heap.size + 1) a n cap zs st W hn (by omega) hcap (hr.keep hB) hb h
  have CN : Hid _ := cN
  have CT : Hid _ := cT
  have B0 : Below w.heap.size w ((w.alloc (.cells #[.int .i64 0, .int .i64 0, .int .i64 0, .slice none 0 0, .slice none 0 0, .slice none 0 0] 27)).alloc (.cells #[.slice a n cap, .int .i64 0, .bool false] 92)) := ((Below.refl _ w).alloc (Nat.le_refl _) _).alloc (by simp) _
  have res0 : Blk ((w.alloc (.cells #[.int .i64 0, .int .i64 0, .int .i64 0, .slice none 0 0, .slice none 0 0, .slice none 0 0] 27)).alloc (.cells #[.slice a n cap, .int .i64 0, .bool false] 92)) w.heap.size 27 #[.int .i64 0, .int .i64 0, .int .i64 0, .slice none 0 0, .slice none 0 0, .slice none 0 0] := (Blk.new w _ _).alloc _
  have rs0 : RS ((w.alloc (.cells #[.int .i64 0, .int .i64 0, .int .i64 0, .slice none 0 0, .slice none 0 0, .slice none 0 0] 27)).alloc (.cells #[.slice a n cap, .int .i64 0, .bool false] 92)) (w.heap.size + 1) a n cap (some 0) := ⟨0, Blk.newAt (by simp), fun q hq => by cases hq; rfl⟩
  clear cN cT
  go_enter Try.func22, Try.ntmps22
  go_wp2_with fail
  obtain ⟨W0, hW0⟩ : ∃ W, (w.alloc (.cells #[.int .i64 0, .int .i64 0, .int .i64 0, .slice none 0 0, .slice none 0 0, .slice none 0 0] 27)).alloc (.cells #[.slice a n cap, .int .i64 0, .bool false] 92) = W := ⟨_, rfl⟩
  rw [hW0] at B0 res0 rs0 ⊢
  clear hW0
  refine (CN.out W0 (some 0) rs0 B0).mono ?_
  rintro e w1 ⟨rfl, rs1, gr1⟩
  have B1 := below_gr B0 gr1 (Nat.le_refl _) (by omega)
  have res1 := res0.kp (rs0.kpt gr1) (by decide)
  clear res0 rs0 gr1 B0
  obtain ⟨i1, hi1⟩ : ∃ i, (rdN zs (some 0)).1 = i := ⟨_, rfl⟩
  obtain ⟨s1, hs1⟩ : ∃ i, (rdN zs (some 0)).2 = i := ⟨_, rfl⟩
  rw [hi1]
  rw [hs1] at rs1
  have E1 : Hid ((g1 zs).1 = i1) := hi1
  have S1 : Hid ((g1 zs).2 = s1) := hs1
  clear hi1 hs1
  have bX : Below w1.heap.size w1 (w1.alloc (.cells #[.int .i64 (i1 : Int), .int .i64 0, .int .i64 0, .slice none 0 0, .slice none 0 0, .slice none 0 0] 27)) := (Below.refl _ w1).alloc (Nat.le_refl _) _
  have gx1 : GX w (w1.alloc (.cells #[.int .i64 (i1 : Int), .int .i64 0, .int .i64 0, .slice none 0 0, .slice none 0 0, .slice none 0 0] 27)) w1.heap.size #[.int .i64 (i1 : Int), .int .i64 0, .int .i64 0, .slice none 0 0, .slice none 0 0, .slice none 0 0] (.slice none 0 0) [] (.slice none 0 0) [] (.slice none 0 0) [] :=
    ⟨B1.alloc B1.size _, res1.alloc _, Blk.new w1 _ _, res1.lt, .inl rfl, ⟨rfl, .inl ⟨rfl, rfl⟩⟩, ⟨rfl, .inl ⟨rfl, rfl⟩⟩⟩
  have rs1' := rs1.keep bX
  go_wp2_with fail
  obtain ⟨W1, hW1⟩ : ∃ W, w1.alloc (.cells #[.int .i64 (i1 : Int), .int .i64 0, .int .i64 0, .slice none 0 0, .slice none 0 0, .slice none 0 0] 27) = W := ⟨_, rfl⟩
  obtain ⟨X, hX⟩ : ∃ X, w1.heap.size = X := ⟨_, rfl⟩
  rw [hW1] at gx1 rs1' ⊢
  rw [hX] at gx1 ⊢
  clear hW1 bX rs1 res1 B1
  refine (CN.out W1 s1 rs1' gx1.below).mono ?_
  rintro e w2 ⟨rfl, rs2, gr2⟩
  have gx2 := gx1.kp (rs1'.kpt gr2) (below_gr gx1.below gr2 (Nat.le_refl _) (by omega))
  clear gx1 rs1' gr2
  obtain ⟨i2, hi2⟩ : ∃ i, (rdN zs s1).1 = i := ⟨_, rfl⟩
  obtain ⟨s2, hs2⟩ : ∃ i, (rdN zs s1).2 = i := ⟨_, rfl⟩
  rw [hi2]
  rw [hs2] at rs2
  have E2 : Hid ((g2 zs).1 = i2) := by show _ = _; unfold g2; rw [S1.out, hi2]
  have S2 : Hid ((g2 zs).2 = s2) := by show _ = _; unfold g2; rw [S1.out, hs2]
  clear hi2 hs2
  have c1 := gx2.x.cell 1
  have f1 := gx2.x.frozen 1
  simp at c1
  have gx2' : GX w (w2.setCell ⟨X, 1, none⟩ (.int .i64 (i2 : Int))) X #[.int .i64 (i1 : Int), .int .i64 (i2 : Int), .int .i64 0, .slice none 0 0, .slice none 0 0, .slice none 0 0] (.slice none 0 0) [] (.slice none 0 0) [] (.slice none 0 0) [] := gx2.setX 1 _
  have rs2' := rs2.setX gx2.x 1 (.int .i64 (i2 : Int))
  go_wp2_with fail
  obtain ⟨W2, hW2⟩ : ∃ W, w2.setCell ⟨X, 1, none⟩ (.int .i64 (i2 : Int)) = W := ⟨_, rfl⟩
  rw [hW2] at gx2' rs2' ⊢
  clear hW2 c1 f1 gx2 rs2
  refine (CN.out W2 s2 rs2' gx2'.below).mono ?_
  rintro e w3 ⟨rfl, rs3, gr3⟩
  have gx3 := gx2'.kp (rs2'.kpt gr3) (below_gr gx2'.below gr3 (Nat.le_refl _) (by omega))
  clear gx2' rs2' gr3
  obtain ⟨i3, hi3⟩ : ∃ i, (rdN zs s2).1 = i := ⟨_, rfl⟩
  obtain ⟨s3, hs3⟩ : ∃ i, (rdN zs s2).2 = i := ⟨_, rfl⟩
  rw [hi3]
  rw [hs3] at rs3
  have E3 : Hid ((g3 zs).1 = i3) := by show _ = _; unfold g3; rw [S2.out, hi3]
  have S3 : Hid ((g3 zs).2 = s3) := by show _ = _; unfold g3; rw [S2.out, hs3]
  clear hi3 hs3
  have c1 := gx3.x.cell 2
  have f1 := gx3.x.frozen 2
  simp at c1
  have gx3' : GX w (w3.setCell ⟨X, 2, none⟩ (.int .i64 (i3 : Int))) X #[.int .i64 (i1 : Int), .int .i64 (i2 : Int), .int .i64 (i3 : Int), .slice none 0 0, .slice none 0 0, .slice none 0 0] (.slice none 0 0) [] (.slice none 0 0) [] (.slice none 0 0) [] := gx3.setX 2 _
  have rs3' := rs3.setX gx3.x 2 (.int .i64 (i3 : Int))
  go_wp2_with fail
  obtain ⟨W3, hW3⟩ : ∃ W, w3.setCell ⟨X, 2, none⟩ (.int .i64 (i3 : Int)) = W := ⟨_, rfl⟩
  rw [hW3] at gx3' rs3' ⊢
  clear hW3 c1 f1 gx3 rs3
  refine (CT.out W3 s3 rs3' gx3'.below).mono ?_
  rintro e w4 ⟨rfl, rs4, gr4⟩
  have gx4 := gx3'.kp (rs3'.kpt gr4) (below_gr gx3'.below gr4 (Nat.le_refl _) (by omega))
  clear gx3' rs3' gr4
  obtain ⟨d, hd⟩ : ∃ i, (rdT zs s3).1 = i := ⟨_, rfl⟩
  obtain ⟨s4, hs4⟩ : ∃ i, (rdT zs s3).2 = i := ⟨_, rfl⟩
  rw [hd]
  rw [hs4] at rs4
  have E4 : Hid ((g4 zs).1 = d) := by show _ = _; unfold g4; rw [S3.out, hd]
  have S4 : Hid ((g4 zs).2 = s4) := by show _ = _; unfold g4; rw [S3.out, hs4]
  clear hd hs4
  obtain ⟨c5, W5, hcv, oD, bD⟩ := conv_str w4 d
  have rs5 := rs4.keep bD
  have gx5 := gx4.keep bD
  have c1 := gx5.x.cell 3
  have f1 := gx5.x.frozen 3
  simp at c1
  have hlD : (strZ d).length = d.size := strZ_len d
  have gx5' : GX w W5 X #[.int .i64 (i1 : Int), .int .i64 (i2 : Int), .int .i64 (i3 : Int), .slice none 0 0, .slice none 0 0, .slice none 0 0] (.slice (some ⟨w4.heap.size, 0, none⟩) d.size c5) (strZ d) (.slice none 0 0) [] (.slice none 0 0) [] :=
    ⟨gx5.below, gx5.res, gx5.x, gx5.hX, .inr ⟨w4.heap.size, c5, by rw [hlD], gx4.below.size, by rw [hlD]; exact oD⟩, gx5.e, gx5.t⟩
  have gx6 : GX w (W5.setCell ⟨X, 3, none⟩ (.slice (some ⟨w4.heap.size, 0, none⟩) d.size c5)) X #[.int .i64 (i1 : Int), .int .i64 (i2 : Int), .int .i64 (i3 : Int), .slice (some ⟨w4.heap.size, 0, none⟩) d.size c5, .slice none 0 0, .slice none 0 0] (.slice (some ⟨w4.heap.size, 0, none⟩) d.size c5) (strZ d) (.slice none 0 0) [] (.slice none 0 0) [] := gx5'.setX 3 _
  have rs6 := rs5.setX gx5.x 3 (.slice (some ⟨w4.heap.size, 0, none⟩) d.size c5)
  clear gx5' rs4 gx4 oD bD
  go_wp2_with fail
  obtain ⟨W6, hW6⟩ : ∃ W, W5.setCell ⟨X, 3, none⟩ (.slice (some ⟨w4.heap.size, 0, none⟩) d.size c5) = W := ⟨_, rfl⟩
  rw [hW6] at gx6 rs6 ⊢
  obtain ⟨V1, hV1⟩ : ∃ V, Value.slice (some ⟨w4.heap.size, 0, none⟩) d.size c5 = V := ⟨_, rfl⟩
  rw [hV1] at gx6 ⊢
  clear hW6 c1 f1 gx5 rs5 hcv
  refine (CN.out W6 s4 rs6 gx6.below).mono ?_
  rintro e w7 ⟨rfl, rs7, gr7⟩
  have gx7 := gx6.kp (rs6.kpt gr7) (below_gr gx6.below gr7 (Nat.le_refl _) (by omega))
  clear gx6 rs6 gr7
  have hn5 := rdN_le zs s4
  obtain ⟨n5, hn5'⟩ : ∃ i, (rdN zs s4).1 = i := ⟨_, rfl⟩
  obtain ⟨s5, hs5⟩ : ∃ i, (rdN zs s4).2 = i := ⟨_, rfl⟩
  rw [hn5'] at hn5 ⊢
  rw [hs5] at rs7
  have E5 : Hid ((g5 zs).1 = n5) := by show _ = _; unfold g5; rw [S4.out, hn5']
  have S5 : Hid ((g5 zs).2 = s5) := by show _ = _; unfold g5; rw [S4.out, hs5]
  clear hn5' hs5
  obtain ⟨ie, hie, ze0, ze1, ze2⟩ := info_parts Try.infoEnt
  obtain ⟨ia, hia, za0, za1, za2⟩ := info_parts Try.infoAttr
  go_upto_block 0 with fail
  go_cut [7] (fun _ wx => ∃ v2 es st, EndE zs es st ∧ RS wx (w.heap.size + 1) a n cap st ∧ GX w wx X #[.int .i64 (i1 : Int), .int .i64 (i2 : Int), .int .i64 (i3 : Int), V1, v2, .slice none 0 0] V1 (strZ d) v2 es (.slice none 0 0) [])
  case first =>
    go_wp2_with fail
    go_loopw [7] (fun i wr => ∃ (k : Nat) (v2 : Value), k ≤ 11 ∧ k ≤ n5 ∧ i = .int .i64 k ∧ RS wr (w.heap.size + 1) a n cap (rdE zs s5 k).2 ∧ GX w wr X #[.int .i64 (i1 : Int), .int .i64 (i2 : Int), .int .i64 (i3 : Int), V1, v2, .slice none 0 0] V1 (strZ d) v2 (rdE zs s5 k).1 (.slice none 0 0) []) (fun i _ => 11 - (intOf i).toNat)
    case atStart => exact ⟨0, .slice none 0 0, by omega, by omega, rfl, rs7, gx7⟩
    case round =>
      obtain ⟨k, v2, hk11, hkn5, rfl, rsk, gxk⟩ := hrel
      have hlk := rdE_len zs s5 k
      have hes : Hid ((rdE zs s5 (k + 1)).1 = (rdE zs s5 k).1 ++ [((rdT zs (rdE zs s5 k).2).1, ((rdN zs (rdT zs (rdE zs s5 k).2).2).1 : Int))] ∧ (rdE zs s5 (k + 1)).2 = (rdN zs (rdT zs (rdE zs s5 k).2).2).2) := ⟨rfl, rfl⟩
      have hend : Hid ((¬ (k < n5 ∧ k ≤ 10) ∨ (rdE zs s5 k).2 = none) → EndE zs (rdE zs s5 k).1 (rdE zs s5 k).2) := by
        intro h
        unfold EndE gE
        rw [E5.out, S5.out]
        rcases h with h | h
        · rw [show min n5 11 = k by omega]
          exact ⟨rfl, .inr rfl⟩
        · exact ⟨by rw [h, rdE_none h (show k ≤ min n5 11 by omega)], .inl h⟩
      obtain ⟨es, hes'⟩ : ∃ l, (rdE zs s5 k).1 = l := ⟨_, rfl⟩
      obtain ⟨st, hst'⟩ : ∃ l, (rdE zs s5 k).2 = l := ⟨_, rfl⟩
      rw [hes', hst'] at hes hend
      rw [hes'] at gxk hlk
      rw [hst'] at rsk
      clear hes' hst'
      obtain ⟨p, hbr, hpq⟩ := id rsk
      have cb := hbr.cell 2
      simp at cb
      clear hbr hpq
      by_cases hgo : (k < n5 ∧ k ≤ 10) ∧ st ≠ none
      · obtain ⟨⟨hk1, hk2⟩, hst⟩ := hgo
        have hk1' : (k : Int) < (n5 : Int) := by omega
        have hk2' : (k : Int) ≤ 10 := by omega
        obtain ⟨q, rfl⟩ := Option.ne_none_iff_exists'.1 hst
        simp only [Option.isNone_some] at cb
        go_wp2_with fail
        refine (CT.out wr (some q) rsk gxk.below).mono ?_
        rintro e w8 ⟨rfl, rs8, gr8⟩
        have gx8 := gxk.kp (rsk.kpt gr8) (below_gr gxk.below gr8 (Nat.le_refl _) (by omega))
        obtain ⟨z, hz⟩ : ∃ i, (rdT zs (some q)).1 = i := ⟨_, rfl⟩
        obtain ⟨sz, hsz⟩ : ∃ i, (rdT zs (some q)).2 = i := ⟨_, rfl⟩
        rw [hz, hsz] at hes
        rw [hz]
        rw [hsz] at rs8
        clear hz hsz gr8 rsk gxk hend hst cb
        have bE : Below w8.heap.size w8 (w8.alloc (.cells #[.string z, .int .i64 0] 35)) := (Below.refl _ w8).alloc (Nat.le_refl _) _
        have bl9 := Blk.new w8 35 #[.string z, .int .i64 0]
        have rs9 := rs8.keep bE
        have gx9 := gx8.keep bE
        go_wp2_with fail
        obtain ⟨W9, hW9⟩ : ∃ W, w8.alloc (.cells #[.string z, .int .i64 0] 35) = W := ⟨_, rfl⟩
        rw [hW9] at bE bl9 rs9 gx9 ⊢
        clear hW9
        obtain ⟨E, hE⟩ : ∃ E, w8.heap.size = E := ⟨_, rfl⟩
        rw [hE] at bl9 ⊢
        have hrow : v2.ownBlock ≠ some E := fun h => by
          obtain ⟨_, cur, hc⟩ := row_at gx8.e h
          have := (Array.getElem?_eq_some_iff.1 hc).1
          omega
        have hXE : X ≠ E := by have := gx8.x.lt; omega
        have hHE : w.heap.size ≠ E := by have := gx8.res.lt; omega
        have hRE : w.heap.size ≤ E := by have := gx8.below.size; omega
        clear rs8 gx8 bE
        refine (CN.out W9 sz rs9 gx9.below).mono ?_
        rintro e w10 ⟨rfl, rs10, gr10⟩
        have kp10 := rs9.kpt gr10
        have gx10 := gx9.kp kp10 (below_gr gx9.below gr10 (Nat.le_refl _) (by omega))
        have bl10 := bl9.kp kp10 (by decide)
        obtain ⟨x, hx⟩ : ∃ i, (rdN zs sz).1 = i := ⟨_, rfl⟩
        obtain ⟨sx, hsx⟩ : ∃ i, (rdN zs sz).2 = i := ⟨_, rfl⟩
        rw [hx, hsx] at hes
        rw [hx]
        rw [hsx] at rs10
        clear hx hsx gr10 rs9 gx9 kp10 bl9
        have d0 := bl10.cell 0
        have d1 := bl10.cell 1
        have fd := bl10.frozen 1
        simp at d0 d1
        -- the entry's number is stored
        have gS := gr_setC w10 E 1 (.int .i64 (x : Int))
        have bl11 : Blk (w10.setCell ⟨E, 1, none⟩ (.int .i64 (x : Int))) E 35 #[.string z, .int .i64 (x : Int)] := bl10.set 1 _
        have kS : KpT w10 (w10.setCell ⟨E, 1, none⟩ (.int .i64 (x : Int))) [27, 5, 77, 92] := KpT.grown gS bl10 (by decide)
        have gx11 : GX w (w10.setCell ⟨E, 1, none⟩ (.int .i64 (x : Int))) X #[.int .i64 (i1 : Int), .int .i64 (i2 : Int), .int .i64 (i3 : Int), V1, v2, .slice none 0 0] V1 (strZ d) v2 es (.slice none 0 0) [] :=
          ⟨gx10.below.setCell (p := ⟨E, 1, none⟩) hRE _, gx10.res.kp kS (by decide), gx10.x.kp kS (by decide), gx10.hX, gx10.d.imp id (fun q => q.kp kS (by decide)), row_kept gx10.e gS (fun g hg h => hrow (by rw [hg, ← h])), row_kp gx10.t kS (by decide)⟩
        have rs11 := rs10.kp kS (by decide)
        have x4 := gx10.x.cell 4
        simp at x4
        clear gx10 rs10 kS gS bl11
        have hrowE := gx11.e
        rw [hlk] at hrowE
        have hbW := gx11.below.size
        have hSW : (w10.setCell ⟨E, 1, none⟩ (.int .i64 (x : Int))).heap.size = w10.heap.size := size_setC _ _ _
        go_wp2_with (at_builtin; refine wpList_appP (w10.setCell ⟨E, 1, none⟩ (.int .i64 (x : Int))) rfl (.tmp 53) (.tmp 55) 24 35 rfl Try.underlying24 ie _ _ hie ze0 ze1 ze2 rfl (by omega) w.heap.size v2 k (eP es) (.string z, .int .i64 (x : Int)) rfl hrowE (by omega) (by rw [hSW]; rfl) rfl rfl hbW ?_; intro v2' w12 ho12 hg12; obtain ⟨g2, cc2, rfl⟩ := row_some ho12 (by omega); rw [← eP_snoc es (z, (x : Int))] at ho12; have gx12 := gx11.appE _ hg12 (.slice (some ⟨g2, 0, none⟩) (k + 1) cc2) (es ++ [(z, (x : Int))]) (by rw [List.length_append, hlk]; exact ho12); have rs12 := rs11.app _ hg12 gx11.e (by decide); have x4'' := gx12.x.cell 4; have f4'' := gx12.x.frozen 4; simp at x4'')
        have gx13 : GX w (w12.setCell ⟨X, 4, none⟩ (.slice (some ⟨g2, 0, none⟩) (k + 1) cc2)) X #[.int .i64 (i1 : Int), .int .i64 (i2 : Int), .int .i64 (i3 : Int), V1, .slice (some ⟨g2, 0, none⟩) (k + 1) cc2, .slice none 0 0] V1 (strZ d) (.slice (some ⟨g2, 0, none⟩) (k + 1) cc2) (es ++ [(z, (x : Int))]) (.slice none 0 0) [] := gx12.setX 4 _
        have rs13 := rs12.setX gx12.x 4 (.slice (some ⟨g2, 0, none⟩) (k + 1) cc2)
        go_roundw
        case rel => exact ⟨k + 1, .slice (some ⟨g2, 0, none⟩) (k + 1) cc2, by omega, by omega, by go_num, by rw [hes.out.2]; exact rs13, by rw [hes.out.1]; exact gx13⟩
        case measure => simp [intOf]; omega
      · have hend' : Hid (EndE zs es st) := hend.out (by
          by_cases h1 : k < n5 ∧ k ≤ 10
          · exact .inr (Decidable.not_not.1 (fun h => hgo ⟨h1, h⟩))
          · exact .inl h1)
        have h3 : (¬ k < n5) ∨ (k < n5 ∧ ¬ k ≤ 10) ∨ (k < n5 ∧ k ≤ 10 ∧ st = none) := by
          by_cases h1 : k < n5
          · by_cases h2 : k ≤ 10
            · exact .inr (.inr ⟨h1, h2, Decidable.not_not.1 (fun h => hgo ⟨⟨h1, h2⟩, h⟩)⟩)
            · exact .inr (.inl ⟨h1, h2⟩)
          · exact .inl h1
        clear hend hes hgo
        rcases h3 with h | ⟨h, h'⟩ | ⟨h, h', hst0⟩
        · have hi1' : ¬ (k : Int) < (n5 : Int) := by omega
          go_wp2_with fail
          go_meet
          exact ⟨v2, es, st, hend'.out, rsk, gxk⟩
        · have hi1' : (k : Int) < (n5 : Int) := by omega
          have hi2' : ¬ (k : Int) ≤ 10 := by omega
          go_wp2_with fail
          go_meet
          exact ⟨v2, es, st, hend'.out, rsk, gxk⟩
        · have hi1' : (k : Int) < (n5 : Int) := by omega
          have hi2' : (k : Int) ≤ 10 := by omega
          subst hst0
          simp only [Option.isNone_none] at cb
          go_wp2_with fail
          go_meet
          exact ⟨v2, es, none, hend'.out, rsk, gxk⟩
  case rest =>
  obtain ⟨v2, es, st, hend0, rsk, gxk⟩ := hcut
  obtain ⟨w13, hwc⟩ : ∃ W, W = wc := ⟨_, rfl⟩
  subst hwc
  have hend' : Hid (EndE zs es st) := hend0
  clear hend0 rs7 gx7
  go_wp2_with fail
  refine (CN.out _ st rsk gxk.below).mono ?_
  rintro e w14 ⟨rfl, rs14, gr14⟩
  have gx14 := gxk.kp (rsk.kpt gr14) (below_gr gxk.below gr14 (Nat.le_refl _) (by omega))
  have hm6 := rdN_le zs st
  obtain ⟨m6, hm6'⟩ : ∃ i, (rdN zs st).1 = i := ⟨_, rfl⟩
  obtain ⟨s6, hs6⟩ : ∃ i, (rdN zs st).2 = i := ⟨_, rfl⟩
  rw [hm6'] at hm6 ⊢
  rw [hs6] at rs14
  have E6 : Hid ((g6 zs).1 = m6) := by show _ = _; unfold g6; rw [← hend'.out.1, hm6']
  have S6 : Hid ((g6 zs).2 = s6) := by show _ = _; unfold g6; rw [← hend'.out.1, hs6]
  clear hm6' hs6 rsk gxk gr14
  go_upto_block 2 with fail
  go_cut [10] (fun _ wx => ∃ v3 ats sv, EndA zs ats sv ∧ RS wx (w.heap.size + 1) a n cap sv ∧ GX w wx X #[.int .i64 (i1 : Int), .int .i64 (i2 : Int), .int .i64 (i3 : Int), V1, v2, v3] V1 (strZ d) v2 es v3 ats)
  case first =>
    go_wp2_with fail
    go_loopw [10] (fun i wr => ∃ (k : Nat) (v3 : Value), k ≤ 5 ∧ k ≤ m6 ∧ i = .int .i64 k ∧ RS wr (w.heap.size + 1) a n cap (rdA zs s6 k).2 ∧ GX w wr X #[.int .i64 (i1 : Int), .int .i64 (i2 : Int), .int .i64 (i3 : Int), V1, v2, v3] V1 (strZ d) v2 es v3 (rdA zs s6 k).1) (fun i _ => 5 - (intOf i).toNat)
    case atStart => exact ⟨0, .slice none 0 0, by omega, by omega, rfl, rs14, gx14⟩
    case round =>
      obtain ⟨j, v3, hj5, hjm, rfl, rsm, gxm⟩ := hrel
      have hlj := rdA_len zs s6 j
      have hats : Hid ((rdA zs s6 (j + 1)).1 = (rdA zs s6 j).1 ++ [((rdT zs (rdA zs s6 j).2).1, (rdT zs (rdT zs (rdA zs s6 j).2).2).1)] ∧ (rdA zs s6 (j + 1)).2 = (rdT zs (rdT zs (rdA zs s6 j).2).2).2) := ⟨rfl, rfl⟩
      have hend2 : Hid ((¬ (j < m6 ∧ j ≤ 4) ∨ (rdA zs s6 j).2 = none) → EndA zs (rdA zs s6 j).1 (rdA zs s6 j).2) := by
        intro h
        unfold EndA gA
        rw [E6.out, S6.out]
        rcases h with h | h
        · rw [show min m6 5 = j by omega]
          exact ⟨rfl, .inr rfl⟩
        · exact ⟨by rw [h, rdA_none h (show j ≤ min m6 5 by omega)], .inl h⟩
      obtain ⟨ats, hats'⟩ : ∃ l, (rdA zs s6 j).1 = l := ⟨_, rfl⟩
      obtain ⟨sv, hsv'⟩ : ∃ l, (rdA zs s6 j).2 = l := ⟨_, rfl⟩
      rw [hats', hsv'] at hats hend2
      rw [hats'] at gxm hlj
      rw [hsv'] at rsm
      clear hats' hsv'
      obtain ⟨p, hbr, hpq⟩ := id rsm
      have cb2 := hbr.cell 2
      simp at cb2
      clear hbr hpq
      by_cases hgo2 : (j < m6 ∧ j ≤ 4) ∧ sv ≠ none
      · obtain ⟨⟨hj1, hj2⟩, hsv⟩ := hgo2
        have hj1' : (j : Int) < (m6 : Int) := by omega
        have hj2' : (j : Int) ≤ 4 := by omega
        obtain ⟨q, rfl⟩ := Option.ne_none_iff_exists'.1 hsv
        simp only [Option.isNone_some] at cb2
        go_wp2_with fail
        refine (CT.out _ (some q) rsm gxm.below).mono ?_
        rintro e w8 ⟨rfl, rs8, gr8⟩
        have gx8 := gxm.kp (rsm.kpt gr8) (below_gr gxm.below gr8 (Nat.le_refl _) (by omega))
        obtain ⟨z, hz⟩ : ∃ i, (rdT zs (some q)).1 = i := ⟨_, rfl⟩
        obtain ⟨sz, hsz⟩ : ∃ i, (rdT zs (some q)).2 = i := ⟨_, rfl⟩
        rw [hz, hsz] at hats
        rw [hz]
        rw [hsz] at rs8
        clear hz hsz gr8 rsm gxm hend2 hsv cb2
        have bE : Below w8.heap.size w8 (w8.alloc (.cells #[.string z, .string ⟨#[]⟩] 77)) := (Below.refl _ w8).alloc (Nat.le_refl _) _
        have bl9 := Blk.new w8 77 #[.string z, .string ⟨#[]⟩]
        have rs9 := rs8.keep bE
        have gx9 := gx8.keep bE
        go_wp2_with fail
        obtain ⟨W9, hW9⟩ : ∃ W, w8.alloc (.cells #[.string z, .string ⟨#[]⟩] 77) = W := ⟨_, rfl⟩
        rw [hW9] at bE bl9 rs9 gx9 ⊢
        clear hW9
        obtain ⟨E, hE⟩ : ∃ E, w8.heap.size = E := ⟨_, rfl⟩
        rw [hE] at bl9 ⊢
        have hrow : v3.ownBlock ≠ some E := fun h => by
          obtain ⟨_, cur, hc⟩ := row_at gx8.t h
          have := (Array.getElem?_eq_some_iff.1 hc).1
          omega
        have hXE : X ≠ E := by have := gx8.x.lt; omega
        have hHE : w.heap.size ≠ E := by have := gx8.res.lt; omega
        have hRE : w.heap.size ≤ E := by have := gx8.below.size; omega
        clear rs8 gx8 bE
        refine (CT.out W9 sz rs9 gx9.below).mono ?_
        rintro e w10 ⟨rfl, rs10, gr10⟩
        have kp10 := rs9.kpt gr10
        have gx10 := gx9.kp kp10 (below_gr gx9.below gr10 (Nat.le_refl _) (by omega))
        have bl10 := bl9.kp kp10 (by decide)
        obtain ⟨x, hx⟩ : ∃ i, (rdT zs sz).1 = i := ⟨_, rfl⟩
        obtain ⟨sx, hsx⟩ : ∃ i, (rdT zs sz).2 = i := ⟨_, rfl⟩
        rw [hx, hsx] at hats
        rw [hx]
        rw [hsx] at rs10
        clear hx hsx gr10 rs9 gx9 kp10 bl9
        have d0 := bl10.cell 0
        have d1 := bl10.cell 1
        have fd := bl10.frozen 1
        simp at d0 d1
        have gS := gr_setC w10 E 1 (.string x)
        have kS : KpT w10 (w10.setCell ⟨E, 1, none⟩ (.string x)) [27, 5, 35, 92] := KpT.grown gS bl10 (by decide)
        have gx11 : GX w (w10.setCell ⟨E, 1, none⟩ (.string x)) X #[.int .i64 (i1 : Int), .int .i64 (i2 : Int), .int .i64 (i3 : Int), V1, v2, v3] V1 (strZ d) v2 es v3 ats :=
          ⟨gx10.below.setCell (p := ⟨E, 1, none⟩) hRE _, gx10.res.kp kS (by decide), gx10.x.kp kS (by decide), gx10.hX, gx10.d.imp id (fun q => q.kp kS (by decide)), row_kp gx10.e kS (by decide), row_kept gx10.t gS (fun g hg h => hrow (by rw [hg, ← h]))⟩
        have rs11 := rs10.kp kS (by decide)
        have x4 := gx10.x.cell 5
        simp at x4
        clear gx10 rs10 kS gS
        have hrowE := gx11.t
        rw [hlj] at hrowE
        have hbW := gx11.below.size
        have hSW : (w10.setCell ⟨E, 1, none⟩ (.string x)).heap.size = w10.heap.size := size_setC _ _ _
        go_wp2_with (at_builtin; refine wpList_appP (w10.setCell ⟨E, 1, none⟩ (.string x)) rfl (.tmp 83) (.tmp 85) 25 77 rfl Try.underlying25 ia _ _ hia za0 za1 za2 rfl (by omega) w.heap.size v3 j (aP ats) (.string z, .string x) rfl hrowE (by omega) (by rw [hSW]; rfl) rfl rfl hbW ?_; intro v3' w12 ho12 hg12; obtain ⟨g3', cc3, rfl⟩ := row_some ho12 (by omega); rw [← aP_snoc ats (z, x)] at ho12; have gx12 := gx11.appA _ hg12 (.slice (some ⟨g3', 0, none⟩) (j + 1) cc3) (ats ++ [(z, x)]) (by rw [List.length_append, hlj]; exact ho12); have rs12 := rs11.app _ hg12 gx11.t (by decide); have x4'' := gx12.x.cell 5; have f4'' := gx12.x.frozen 5; simp at x4'')
        have gx13 : GX w (w12.setCell ⟨X, 5, none⟩ (.slice (some ⟨g3', 0, none⟩) (j + 1) cc3)) X #[.int .i64 (i1 : Int), .int .i64 (i2 : Int), .int .i64 (i3 : Int), V1, v2, .slice (some ⟨g3', 0, none⟩) (j + 1) cc3] V1 (strZ d) v2 es (.slice (some ⟨g3', 0, none⟩) (j + 1) cc3) (ats ++ [(z, x)]) := gx12.setX 5 _
        have rs13 := rs12.setX gx12.x 5 (.slice (some ⟨g3', 0, none⟩) (j + 1) cc3)
        go_roundw
        case rel => exact ⟨j + 1, .slice (some ⟨g3', 0, none⟩) (j + 1) cc3, by omega, by omega, by go_num, by rw [hats.out.2]; exact rs13, by rw [hats.out.1]; exact gx13⟩
        case measure => simp [intOf]; omega
      · have hend2' : Hid (EndA zs ats sv) := hend2.out (by
          by_cases h1 : j < m6 ∧ j ≤ 4
          · exact .inr (Decidable.not_not.1 (fun h => hgo2 ⟨h1, h⟩))
          · exact .inl h1)
        have h4 : (¬ j < m6) ∨ (j < m6 ∧ ¬ j ≤ 4) ∨ (j < m6 ∧ j ≤ 4 ∧ sv = none) := by
          by_cases h1 : j < m6
          · by_cases h2 : j ≤ 4
            · exact .inr (.inr ⟨h1, h2, Decidable.not_not.1 (fun h => hgo2 ⟨⟨h1, h2⟩, h⟩)⟩)
            · exact .inr (.inl ⟨h1, h2⟩)
          · exact .inl h1
        clear hend2 hats hgo2
        rcases h4 with hh | ⟨hh, hh'⟩ | ⟨hh, hh', hsv0⟩
        · have hj1' : ¬ (j : Int) < (m6 : Int) := by omega
          go_wp2_with fail
          go_meet
          exact ⟨v3, ats, sv, hend2'.out, rsm, gxm⟩
        · have hj1' : (j : Int) < (m6 : Int) := by omega
          have hj2' : ¬ (j : Int) ≤ 4 := by omega
          go_wp2_with fail
          go_meet
          exact ⟨v3, ats, sv, hend2'.out, rsm, gxm⟩
        · have hj1' : (j : Int) < (m6 : Int) := by omega
          have hj2' : (j : Int) ≤ 4 := by omega
          subst hsv0
          simp only [Option.isNone_none] at cb2
          go_wp2_with fail
          go_meet
          exact ⟨v3, ats, none, hend2'.out, rsm, gxm⟩
  case rest =>
  obtain ⟨v3, ats, sv, hend0, rsm, gxm⟩ := hcut
  obtain ⟨w15, hwc⟩ : ∃ W, W = wc := ⟨_, rfl⟩
  subst hwc
  have hend2' : Hid (EndA zs ats sv) := hend0
  clear hend0 rs14 gx14
  obtain ⟨p2, hbr2, hpq0⟩ := id rsm
  have hpq2 : Hid _ := hpq0
  clear hpq0
  have rb1 := hbr2.cell 1
  have cb2 := hbr2.cell 2
  have rb0 := hbr2.cell 0
  simp at rb1 cb2 rb0
  clear hbr2
  go_upto_region 20 with fail
  go_cut [119] (fun s wx => s = .bool (!gOk zs) ∧ Below w15.heap.size w15 wx)
  case first =>
    cases hsv : sv with
    | none =>
      rw [hsv] at cb2
      simp only [Option.isNone_none] at cb2
      have HF : Hid (gOk zs = false) := by show _ = _; unfold gOk; rw [← hend2'.out.1, hsv]; rfl
      go_wp2_with fail
      go_meet
      exact ⟨by rw [HF.out]; rfl, Below.refl _ _⟩
    | some q =>
      have hpq := hpq2.out q hsv
      rw [hsv] at cb2
      simp only [Option.isNone_some] at cb2
      obtain ⟨a2, cc2, hv2, rd2⟩ := row_form gxm.e
      obtain ⟨a3, cc3, hv3, rd3⟩ := row_form gxm.t
      subst hv2 hv3
      obtain ⟨x0, x1, x2, x3, x4, x5⟩ := gxm.x.six
      by_cases hpn : p2 = n
      · have hpn' : ((p2 : Int) == (n : Int)) = true := by simp [hpn]
        have hpn2 : ((p2 : Int) != (n : Int)) = false := by simp [hpn]
        have hsvn : (gA zs).2 = some zs.length := by rw [← hend2'.out.1, hsv, ← hpq, hpn, hn]
        have hEs : es = (gE zs).1 := by
          rcases hend'.out.2 with h0 | h0
          · have h1 := gA_none (zs := zs) (by rw [← hend'.out.1]; exact h0)
            rw [h1] at hsvn
            simp at hsvn
          · exact h0
        have hAs : ats = (gA zs).1 := by
          rcases hend2'.out.2 with h0 | h0
          · rw [hsv] at h0
            simp at h0
          · exact h0
        have hDD : gD zs = ⟨(i1 : Int), (i2 : Int), (i3 : Int), strZ d, es, ats⟩ := by
          unfold gD
          rw [E1.out, E2.out, E3.out, E4.out, hEs, hAs]
        have hcnt : inoOk (gD zs) = true → n5 = es.length ∧ m6 = ats.length := fun h0 => by
          have := gOk_counts h0
          rw [E5.out, E6.out, ← hEs, ← hAs] at this
          exact this
        have hsmD := gD_small zs (by omega)
        rw [hDD] at hcnt hsmD
        have hgo3 : Hid (gOk zs = inoOk ⟨(i1 : Int), (i2 : Int), (i3 : Int), strZ d, es, ats⟩) := by
          show _ = _
          unfold gOk
          rw [hDD, hsvn]
          simp
        clear hDD hEs hAs hsvn hsv hpq hpn
        by_cases hc5 : n5 = es.length
        · have hc5' : ((n5 : Int) == (es.length : Int)) = true := by simp [hc5]
          have hc52 : ((n5 : Int) != (es.length : Int)) = false := by simp [hc5]
          by_cases hc6 : m6 = ats.length
          · have hc6' : ((m6 : Int) == (ats.length : Int)) = true := by simp [hc6]
            have hc62 : ((m6 : Int) != (ats.length : Int)) = false := by simp [hc6]
            have hbD : OwnB w15 w4.heap.size (strZ d).length (strZ d) := by
              rcases gxm.d with h0 | ⟨g, c, h0, hg, ho⟩
              · rw [← hV1] at h0
                simp at h0
              · rw [← hV1] at h0
                simp at h0
                obtain ⟨rfl, _, _⟩ := h0
                exact ho
            have hcI : Calls Try.prog 16 #[.agg #[.int .i64 (i1 : Int), .int .i64 (i2 : Int), .int .i64 (i3 : Int), V1, .slice a2 es.length cc2, .slice a3 ats.length cc3]] w15 (fun e w' => e = .returned (.bool (inoOk ⟨(i1 : Int), (i2 : Int), (i3 : Int), strZ d, es, ats⟩)) ∧ Below w15.heap.size w15 w') := by
              rw [← hV1, ← hlD]
              exact inoOkS ⟨(i1 : Int), (i2 : Int), (i3 : Int), strZ d, es, ats⟩ (some ⟨w4.heap.size, 0, none⟩) a2 a3 c5 cc2 cc3 w15 hsmD ⟨hbD.rd, strZ_byt' d, rd2, rd3⟩
            clear hc5 hc6
            clear hcnt hsmD rd2 rd3 hbD hend' hend2' E1 E2 E3 E4 E5 E6 S1 S2 S3 S4 S5 S6 gxm rsm CN CT
            obtain ⟨ok, hok⟩ : ∃ ok, inoOk ⟨(i1 : Int), (i2 : Int), (i3 : Int), strZ d, es, ats⟩ = ok := ⟨_, rfl⟩
            rw [hok] at hcI hgo3
            clear hok
            go_wp2_with fail
            (with_reducible refine hcI.mono ?_)
            rintro e w16 ⟨rfl, b16⟩
            go_wp2_with fail
            go_meet
            exact ⟨by rw [hgo3.out], b16⟩
          · have hc6' : ((m6 : Int) == (ats.length : Int)) = false := by simp; omega
            have hc62 : ((m6 : Int) != (ats.length : Int)) = true := by simp; omega
            have HF : Hid (gOk zs = false) := by show _ = _; rw [hgo3.out]; cases hi : inoOk _ with | false => rfl | true => exact absurd (hcnt hi).2 hc6
            clear hcnt hsmD rd2 rd3 hc5 hc6
            go_wp2_with fail
            go_meet
            exact ⟨by rw [HF.out]; rfl, Below.refl _ _⟩
        · have hc5' : ((n5 : Int) == (es.length : Int)) = false := by simp; omega
          have hc52 : ((n5 : Int) != (es.length : Int)) = true := by simp; omega
          have HF : Hid (gOk zs = false) := by show _ = _; rw [hgo3.out]; cases hi : inoOk _ with | false => rfl | true => exact absurd (hcnt hi).1 hc5
          clear hcnt hsmD rd2 rd3 hc5
          go_wp2_with fail
          go_meet
          exact ⟨by rw [HF.out]; rfl, Below.refl _ _⟩
      · have hpn' : ((p2 : Int) == (n : Int)) = false := by simp; omega
        have hpn2 : ((p2 : Int) != (n : Int)) = true := by simp; omega
        have HF : Hid (gOk zs = false) := by show _ = _; unfold gOk; rw [← hend2'.out.1, hsv, ← hpq, hn, decide_eq_false (by simp [hpn])]; rfl
        clear hpq hsv rd2 rd3 hpn
        go_wp2_with fail
        go_meet
        exact ⟨by rw [HF.out]; rfl, Below.refl _ _⟩
  case rest =>
  obtain ⟨rfl, b16⟩ := hcut
  obtain ⟨w16, hwc⟩ : ∃ W, W = wc := ⟨_, rfl⟩
  subst hwc
  have gxn := gxm.keep b16
  have HN : Hid (zs.length = n) := hn
  have HV : Hid _ := hV1
  clear gxm rsm rb0 rb1 cb2 CN CT S1 S2 S3 S4 S5 S6 E5 E6 hr hb hn hlD hie ze0 ze1 ze2 hia za0 za1 za2 hX hpq2 hm6 hn5 b16
  have fz0 := gxn.res.frozen 0
  have fz1 := gxn.res.frozen 1
  have fz2 := gxn.res.frozen 2
  have fz3 := gxn.res.frozen 3
  have fz4 := gxn.res.frozen 4
  have fz5 := gxn.res.frozen 5
  obtain ⟨t0, t1, t2, t3, t4, t5⟩ := gxn.res.six
  cases hok : gOk zs with
  | false =>
    have HG : Hid _ := gxn
    have HO : Hid _ := hok
    clear gxn hok
    clear hend' hend2' hV1
    go_wp2
    have zf := (((((HG.out.res.set 0 (.int .i64 0)).set 1 (.int .i64 0)).set 2 (.int .i64 0)).set 3 (.slice none 0 0)).set 4 (.slice none 0 0)).set 5 (.slice none 0 0)
    have dd0 := zf.cell 0
    have dd1 := zf.cell 1
    have dd2 := zf.cell 2
    have dd3 := zf.cell 3
    have dd4 := zf.cell 4
    have dd5 := zf.cell 5
    simp at dd0 dd1 dd2 dd3 dd4 dd5
    refine bodyPost_ret (v := .tuple #[.agg #[.int .i64 0, .int .i64 0, .int .i64 0, .slice none 0 0, .slice none 0 0, .slice none 0 0], .bool false]) (by simp [results, Try.f22, go_sem, dd0, dd1, dd2, dd3, dd4, dd5]) rfl ?_
    exact ⟨.inr ⟨HO.out, rfl⟩, ((((((HG.out.below.setCell (p := ⟨w.heap.size, 0, none⟩) (Nat.le_refl _) _).setCell (p := ⟨w.heap.size, 1, none⟩) (Nat.le_refl _) _).setCell (p := ⟨w.heap.size, 2, none⟩) (Nat.le_refl _) _).setCell (p := ⟨w.heap.size, 3, none⟩) (Nat.le_refl _) _).setCell (p := ⟨w.heap.size, 4, none⟩) (Nat.le_refl _) _).setCell (p := ⟨w.heap.size, 5, none⟩) (Nat.le_refl _) _)⟩
  | true =>
    obtain ⟨a2, cc2, hv2, _⟩ := row_form gxn.e
    obtain ⟨a3, cc3, hv3, _⟩ := row_form gxn.t
    subst hv2 hv3
    subst hV1
    obtain ⟨x0, x1, x2, x3, x4, x5⟩ := gxn.x.six
    have hsvn : (gA zs).2 = some zs.length := by
      unfold gOk at hok
      simp at hok
      exact hok.1
    have hEs : es = (gE zs).1 := by
      rcases hend'.out.2 with h0 | h0
      · have h1 := gA_none (zs := zs) (by rw [← hend'.out.1]; exact h0)
        rw [h1] at hsvn
        simp at hsvn
      · exact h0
    have hAs : ats = (gA zs).1 := by
      rcases hend2'.out.2 with h0 | h0
      · have h1 := hend2'.out.1
        rw [h0, hsvn] at h1
        simp at h1
      · exact h0
    have kF := six_kp gxn.res (.int .i64 (i1 : Int)) (.int .i64 (i2 : Int)) (.int .i64 (i3 : Int)) (.slice (some ⟨w4.heap.size, 0, none⟩) d.size c5) (.slice a2 es.length cc2) (.slice a3 ats.length cc3)
    have hF1 := gxn.d.imp id (fun q => q.kp kF (by decide))
    have hF2 := row_kp gxn.e kF (by decide)
    have hF3 := row_kp gxn.t kF (by decide)
    have HFF : Hid _ := And.intro hF1 (And.intro hF2 hF3)
    clear hF1 hF2 hF3 kF
    have HG : Hid _ := gxn
    have HO : Hid _ := hok
    clear gxn hok
    clear hend' hend2' hsvn
    have HES : Hid _ := hEs
    have HAS : Hid _ := hAs
    clear hEs hAs
    go_wp2
    have zf := (((((HG.out.res.set 0 (.int .i64 (i1 : Int))).set 1 (.int .i64 (i2 : Int))).set 2 (.int .i64 (i3 : Int))).set 3 (.slice (some ⟨w4.heap.size, 0, none⟩) d.size c5)).set 4 (.slice a2 es.length cc2)).set 5 (.slice a3 ats.length cc3)
    have dd0 := zf.cell 0
    have dd1 := zf.cell 1
    have dd2 := zf.cell 2
    have dd3 := zf.cell 3
    have dd4 := zf.cell 4
    have dd5 := zf.cell 5
    simp at dd0 dd1 dd2 dd3 dd4 dd5
    refine bodyPost_ret (v := .tuple #[.agg #[.int .i64 (i1 : Int), .int .i64 (i2 : Int), .int .i64 (i3 : Int), .slice (some ⟨w4.heap.size, 0, none⟩) d.size c5, .slice a2 es.length cc2, .slice a3 ats.length cc3], .bool true]) (by simp [results, Try.f22, go_sem, dd0, dd1, dd2, dd3, dd4, dd5]) rfl ?_
    refine ⟨.inl ⟨HO.out, _, _, _, by rw [E1.out, E2.out, E3.out], ?_, ?_, ?_⟩, ((((((HG.out.below.setCell (p := ⟨w.heap.size, 0, none⟩) (Nat.le_refl _) _).setCell (p := ⟨w.heap.size, 1, none⟩) (Nat.le_refl _) _).setCell (p := ⟨w.heap.size, 2, none⟩) (Nat.le_refl _) _).setCell (p := ⟨w.heap.size, 3, none⟩) (Nat.le_refl _) _).setCell (p := ⟨w.heap.size, 4, none⟩) (Nat.le_refl _) _).setCell (p := ⟨w.heap.size, 5, none⟩) (Nat.le_refl _) _)⟩
    · rw [E4.out]
      rcases HFF.out.1 with h0 | h0
      · simp at h0
      · exact h0
    · rw [← HES.out]
      exact HFF.out.2.1
    · rw [← HAS.out]
      exact HFF.out.2.2
end Go.Proofs.Ytnllhpeddoaehaa