/-
  What the program's GetInode answers.
-/
import Derived.Test.YtnllhpeddoaehaaSpecGet
import Derived.Deep.RegionLaw
namespace Go.Proofs.Ytnllhpeddoaehaa
open Go.RowKit

theorem RI.kpt {W W' : World} {H : Nat} {a : Option Addr} {n cap : Nat} {st : Option Nat} (h : RI W H a n cap st) (g : But W W' (some (H + 1)) (some (H + 2)) none) : KpT W W' [27, 5, 35, 77] := by
  obtain ⟨p, _, b1, b2, _⟩ := h
  exact KpT.but g b1 b2 (by decide) (by decide)
theorem below_but {B : Nat} {w0 W W' : World} {r1 r2 : Nat} (h : Below B w0 W) (g : But W W' (some r1) (some r2) none) (hB : B ≤ w0.heap.size) (h1 : B ≤ r1) (h2 : B ≤ r2) : Below B w0 W' := by
  have hs := h.size
  refine ⟨by rw [g.os, h.os], by rw [g.tape, h.tape], by rw [g.output, h.output], Nat.le_trans h.size g.size, fun k hk => ?_⟩
  rw [g.block k (by omega) (by simp; omega) (by simp; omega) (by simp)]
  exact h.block k hk
theorem RI.setX {W : World} {X H : Nat} {xs : Array Value} {a : Option Addr} {n cap : Nat} {st : Option Nat} (h : RI W H a n cap st) (hx : Blk W X 27 xs) (j : Nat) (v : Value) : RI (W.setCell ⟨X, j, none⟩ v) H a n cap st :=
  h.kp (KpT.grown (ts := [22, 3, 4]) (gr_setC W X j v) hx (by decide)) (by decide) (by decide) (by decide)
theorem RI.keep {W W' : World} {H : Nat} {a : Option Addr} {n cap : Nat} {st : Option Nat} (h : RI W H a n cap st) (hb : Below W.heap.size W W') : RI W' H a n cap st := h.kp (KpT.below hb [22, 3, 4]) (by decide) (by decide) (by decide)
theorem RI.app {W W' : World} {H B n' s : Nat} {a : Option Addr} {n cap : Nat} {st : Option Nat} {v : Value} {e : TypeId} {xs : List Value} (h : RI W H a n cap st) (o : Obj) (hg : (W.alloc o).grownBy W' v.ownBlock) (hr : W.ownsRow B e s v n' xs) (he : e ∉ [22, 3, 4]) : RI W' H a n cap st :=
  (h.keep ((Below.refl W.heap.size W).alloc (Nat.le_refl _) o)).kp (KpT.row hg (World.ownsRow.alloc hr o) he) (by decide) (by decide) (by decide)

set_option maxRecDepth 100000 in
set_option maxHeartbeats 8000000 in
theorem getI (a : Option Addr) (n cap : Nat) (zs : List Int) (w : World) (hn : zs.length = n) (hs : n ≤ 1048576) (hcap : n ≤ cap) (hr : Rd w a zs) (hb : Byt zs) :
    Calls Try.prog 18 #[.slice a n cap] w fun e w' => GetPost w.heap.size w' zs e ∧ Below w.heap.size w w' := by
  have cN := fun (W : World) (st : Option Nat) (h : RI W (w.heap.size + 1) a n cap st) (hB : Below w.heap.size w W) => num_any (w.heap.size + 1) a n cap zs st W hn (by omega) hcap (hr.keep hB) hb h
  have cT := fun (W : World) (st : Option Nat) (h : RI W (w.heap.size + 1) a n cap st) (hB : Below w.heap.size w W) => text_any (w.heap.size + 1) a n cap zs st W hn (by omega) hcap (hr.keep hB) hb h
  have CN : Hid _ := cN
  have CT : Hid _ := cT
  have CE : Hid _ := fun (W : World) (st : Option Nat) (h : RI W (w.heap.size + 1) a n cap st) => atEnd_any (w.heap.size + 1) a n cap st W (by omega) h
  have B0 : Below w.heap.size w (w.alloc (.cells #[.int .i64 0, .int .i64 0, .int .i64 0, .slice none 0 0, .slice none 0 0, .slice none 0 0] 27)) := ((Below.refl _ w).alloc (Nat.le_refl _) _)
  have res0 : Blk (w.alloc (.cells #[.int .i64 0, .int .i64 0, .int .i64 0, .slice none 0 0, .slice none 0 0, .slice none 0 0] 27)) w.heap.size 27 #[.int .i64 0, .int .i64 0, .int .i64 0, .slice none 0 0, .slice none 0 0, .slice none 0 0] := (Blk.new w _ _)
  have hsz0 : (w.alloc (.cells #[.int .i64 0, .int .i64 0, .int .i64 0, .slice none 0 0, .slice none 0 0, .slice none 0 0] 27)).heap.size = w.heap.size + 1 := by simp
  clear cN cT
  go_enter Try.func18, Try.ntmps18
  go_wp2_with fail
  obtain ⟨W0, hW0⟩ : ∃ W, w.alloc (.cells #[.int .i64 0, .int .i64 0, .int .i64 0, .slice none 0 0, .slice none 0 0, .slice none 0 0] 27) = W := ⟨_, rfl⟩
  rw [hW0] at B0 res0 hsz0 ⊢
  clear hW0
  have hRd := readingOf_any a n cap W0
  rw [hsz0] at hRd
  refine hRd.mono ?_
  rintro e w1 ⟨rfl, rs1, b1⟩
  have B1 := B0.trans (b1.mono (Nat.le_succ _))
  have res1 := res0.keep (show Below W0.heap.size W0 w1 by rw [hsz0]; exact b1)
  clear res0 B0 b1 hRd hsz0
  have bX : Below w1.heap.size w1 (w1.alloc (.cells #[.int .i64 0, .int .i64 0, .int .i64 0, .slice none 0 0, .slice none 0 0, .slice none 0 0] 27)) := (Below.refl _ w1).alloc (Nat.le_refl _) _
  have gx0 : GX w (w1.alloc (.cells #[.int .i64 0, .int .i64 0, .int .i64 0, .slice none 0 0, .slice none 0 0, .slice none 0 0] 27)) w1.heap.size #[.int .i64 0, .int .i64 0, .int .i64 0, .slice none 0 0, .slice none 0 0, .slice none 0 0] (.slice none 0 0) [] (.slice none 0 0) [] (.slice none 0 0) [] :=
    ⟨B1.alloc B1.size _, res1.alloc _, Blk.new w1 _ _, res1.lt, .inl rfl, ⟨rfl, .inl ⟨rfl, rfl⟩⟩, ⟨rfl, .inl ⟨rfl, rfl⟩⟩⟩
  have rs0 := rs1.keep bX
  go_wp2_with fail
  obtain ⟨W1, hW1⟩ : ∃ W, w1.alloc (.cells #[.int .i64 0, .int .i64 0, .int .i64 0, .slice none 0 0, .slice none 0 0, .slice none 0 0] 27) = W := ⟨_, rfl⟩
  obtain ⟨X, hX⟩ : ∃ X, w1.heap.size = X := ⟨_, rfl⟩
  rw [hW1] at gx0 rs0 ⊢
  rw [hX] at gx0 ⊢
  clear hW1 bX rs1 res1 B1
  refine (CN.out W1 (some 0) rs0 gx0.below).mono ?_
  rintro e w2 ⟨rfl, rsa2, gr2⟩
  have gxa2 := gx0.kp (rs0.kpt gr2) (below_but gx0.below gr2 (Nat.le_refl _) (by omega) (by omega))
  clear gx0 rs0 gr2
  obtain ⟨i1, hi1⟩ : ∃ i, (rdN zs (some 0)).1 = i := ⟨_, rfl⟩
  obtain ⟨s1, hs1⟩ : ∃ i, (rdN zs (some 0)).2 = i := ⟨_, rfl⟩
  rw [hi1]
  rw [hs1] at rsa2
  have E1 : Hid ((g1 zs).1 = i1) := by show _ = _; unfold g1; exact hi1
  have S1 : Hid ((g1 zs).2 = s1) := by show _ = _; unfold g1; exact hs1
  clear hi1 hs1
  have c1 := gxa2.x.cell 0
  have f1 := gxa2.x.frozen 0
  simp at c1
  have gxb2 : GX w (w2.setCell ⟨X, 0, none⟩ (.int .i64 (i1 : Int))) X #[.int .i64 (i1 : Int), .int .i64 0, .int .i64 0, .slice none 0 0, .slice none 0 0, .slice none 0 0] (.slice none 0 0) [] (.slice none 0 0) [] (.slice none 0 0) [] := gxa2.setX 0 _
  have rsb2 := rsa2.setX gxa2.x 0 (.int .i64 (i1 : Int))
  go_wp2_with fail
  obtain ⟨W2, hW2⟩ : ∃ W, w2.setCell ⟨X, 0, none⟩ (.int .i64 (i1 : Int)) = W := ⟨_, rfl⟩
  rw [hW2] at gxb2 rsb2 ⊢
  clear hW2 c1 f1 gxa2 rsa2
  refine (CN.out W2 s1 rsb2 gxb2.below).mono ?_
  rintro e w3 ⟨rfl, rsa3, gr3⟩
  have gxa3 := gxb2.kp (rsb2.kpt gr3) (below_but gxb2.below gr3 (Nat.le_refl _) (by omega) (by omega))
  clear gxb2 rsb2 gr3
  obtain ⟨i2, hi2⟩ : ∃ i, (rdN zs s1).1 = i := ⟨_, rfl⟩
  obtain ⟨s2, hs2⟩ : ∃ i, (rdN zs s1).2 = i := ⟨_, rfl⟩
  rw [hi2]
  rw [hs2] at rsa3
  have E2 : Hid ((g2 zs).1 = i2) := by show _ = _; unfold g2; rw [S1.out, hi2]
  have S2 : Hid ((g2 zs).2 = s2) := by show _ = _; unfold g2; rw [S1.out, hs2]
  clear hi2 hs2
  have c1 := gxa3.x.cell 1
  have f1 := gxa3.x.frozen 1
  simp at c1
  have gxb3 : GX w (w3.setCell ⟨X, 1, none⟩ (.int .i64 (i2 : Int))) X #[.int .i64 (i1 : Int), .int .i64 (i2 : Int), .int .i64 0, .slice none 0 0, .slice none 0 0, .slice none 0 0] (.slice none 0 0) [] (.slice none 0 0) [] (.slice none 0 0) [] := gxa3.setX 1 _
  have rsb3 := rsa3.setX gxa3.x 1 (.int .i64 (i2 : Int))
  go_wp2_with fail
  obtain ⟨W3, hW3⟩ : ∃ W, w3.setCell ⟨X, 1, none⟩ (.int .i64 (i2 : Int)) = W := ⟨_, rfl⟩
  rw [hW3] at gxb3 rsb3 ⊢
  clear hW3 c1 f1 gxa3 rsa3
  refine (CN.out W3 s2 rsb3 gxb3.below).mono ?_
  rintro e w4 ⟨rfl, rsa4, gr4⟩
  have gxa4 := gxb3.kp (rsb3.kpt gr4) (below_but gxb3.below gr4 (Nat.le_refl _) (by omega) (by omega))
  clear gxb3 rsb3 gr4
  obtain ⟨i3, hi3⟩ : ∃ i, (rdN zs s2).1 = i := ⟨_, rfl⟩
  obtain ⟨s3, hs3⟩ : ∃ i, (rdN zs s2).2 = i := ⟨_, rfl⟩
  rw [hi3]
  rw [hs3] at rsa4
  have E3 : Hid ((g3 zs).1 = i3) := by show _ = _; unfold g3; rw [S2.out, hi3]
  have S3 : Hid ((g3 zs).2 = s3) := by show _ = _; unfold g3; rw [S2.out, hs3]
  clear hi3 hs3
  have c1 := gxa4.x.cell 2
  have f1 := gxa4.x.frozen 2
  simp at c1
  have gxb4 : GX w (w4.setCell ⟨X, 2, none⟩ (.int .i64 (i3 : Int))) X #[.int .i64 (i1 : Int), .int .i64 (i2 : Int), .int .i64 (i3 : Int), .slice none 0 0, .slice none 0 0, .slice none 0 0] (.slice none 0 0) [] (.slice none 0 0) [] (.slice none 0 0) [] := gxa4.setX 2 _
  have rsb4 := rsa4.setX gxa4.x 2 (.int .i64 (i3 : Int))
  go_wp2_with fail
  obtain ⟨W4, hW4⟩ : ∃ W, w4.setCell ⟨X, 2, none⟩ (.int .i64 (i3 : Int)) = W := ⟨_, rfl⟩
  rw [hW4] at gxb4 rsb4 ⊢
  clear hW4 c1 f1 gxa4 rsa4
  refine (CT.out W4 s3 rsb4 gxb4.below).mono ?_
  rintro e w4 ⟨rfl, rs4, gr4⟩
  have gx4 := gxb4.kp (rsb4.kpt gr4) (below_but gxb4.below gr4 (Nat.le_refl _) (by omega) (by omega))
  clear gxb4 rsb4 gr4
  obtain ⟨d, hd⟩ : ∃ i, (rdT zs s3).1 = i := ⟨_, rfl⟩
  obtain ⟨s4, hs4⟩ : ∃ i, (rdT zs s3).2 = i := ⟨_, rfl⟩
  rw [hd]
  rw [hs4] at rs4
  have E4 : Hid ((g4 zs).1 = d) := by show _ = _; unfold g4; rw [S3.out, hd]
  have S4 : Hid ((g4 zs).2 = s4) := by show _ = _; unfold g4; rw [S3.out, hs4]
  clear hd hs4
  obtain ⟨c5, W5, hcv, oD, bD⟩ := conv_str w4 d
  have rs5 := rs4.keep bD
  have gx5 := gx4.keep bD
  have c1 := gx5.x.cell 3
  have f1 := gx5.x.frozen 3
  simp at c1
  have hlD : (strZ d).length = d.size := strZ_len d
  have gx5' : GX w W5 X #[.int .i64 (i1 : Int), .int .i64 (i2 : Int), .int .i64 (i3 : Int), .slice none 0 0, .slice none 0 0, .slice none 0 0] (.slice (some ⟨w4.heap.size, 0, none⟩) d.size c5) (strZ d) (.slice none 0 0) [] (.slice none 0 0) [] :=
    ⟨gx5.below, gx5.res, gx5.x, gx5.hX, .inr ⟨w4.heap.size, c5, by rw [hlD], gx4.below.size, by rw [hlD]; exact oD⟩, gx5.e, gx5.t⟩
  have gx6 : GX w (W5.setCell ⟨X, 3, none⟩ (.slice (some ⟨w4.heap.size, 0, none⟩) d.size c5)) X #[.int .i64 (i1 : Int), .int .i64 (i2 : Int), .int .i64 (i3 : Int), .slice (some ⟨w4.heap.size, 0, none⟩) d.size c5, .slice none 0 0, .slice none 0 0] (.slice (some ⟨w4.heap.size, 0, none⟩) d.size c5) (strZ d) (.slice none 0 0) [] (.slice none 0 0) [] := gx5'.setX 3 _
  have rs6 := rs5.setX gx5.x 3 (.slice (some ⟨w4.heap.size, 0, none⟩) d.size c5)
  clear gx5' rs4 gx4 oD bD
  go_upto_region 7 with fail
  obtain ⟨W6, hW6⟩ : ∃ W, W5.setCell ⟨X, 3, none⟩ (.slice (some ⟨w4.heap.size, 0, none⟩) d.size c5) = W := ⟨_, rfl⟩
  rw [hW6] at gx6 rs6 ⊢
  obtain ⟨V1, hV1⟩ : ∃ V, Value.slice (some ⟨w4.heap.size, 0, none⟩) d.size c5 = V := ⟨_, rfl⟩
  rw [hV1] at gx6 ⊢
  clear hW6 c1 f1 gx5 rs5 hcv
  have hcN := CN.out W6 s4 rs6 gx6.below
  have hn5 := rdN_le zs s4
  obtain ⟨n5, hn5'⟩ : ∃ i, (rdN zs s4).1 = i := ⟨_, rfl⟩
  obtain ⟨s5, hs5⟩ : ∃ i, (rdN zs s4).2 = i := ⟨_, rfl⟩
  rw [hn5', hs5] at hcN
  rw [hn5'] at hn5
  have E5 : Hid ((g5 zs).1 = n5) := by show _ = _; unfold g5; rw [S4.out, hn5']
  have S5 : Hid ((g5 zs).2 = s5) := by show _ = _; unfold g5; rw [S4.out, hs5]
  clear hn5' hs5
  obtain ⟨m5, hm5⟩ : ∃ m, min n5 11 = m := ⟨_, rfl⟩
  have HM5 : Hid (min n5 11 = m5) := hm5
  have hm5l : m5 ≤ 11 := by omega
  go_cut [32, 33] (fun b c wx => b = .int .i64 (m5 : Int) ∧ c = .int .i64 0 ∧ RI wx (w.heap.size + 1) a n cap s5 ∧ GX w wx X #[.int .i64 (i1 : Int), .int .i64 (i2 : Int), .int .i64 (i3 : Int), V1, .slice none 0 0, .slice none 0 0] V1 (strZ d) (.slice none 0 0) [] (.slice none 0 0) [])
  case first =>
    go_wp2_with fail
    refine hcN.mono ?_
    rintro e w7 ⟨rfl, rs7, gr7⟩
    have gx7 := gx6.kp (rs6.kpt gr7) (below_but gx6.below gr7 (Nat.le_refl _) (by omega) (by omega))
    clear gx6 rs6 gr7 hcN
    by_cases hle : n5 ≤ 11
    · have hle1 : (n5 : Int) ≤ 11 := by omega
      have hle2 : ¬ (11 : Int) < (n5 : Int) := by omega
      have hmm : m5 = n5 := by omega
      subst hmm
      go_wp2_with fail
      all_goals first
        | (exfalso; omega)
        | (go_meet; exact ⟨by first | rfl | go_num | (congr 1; omega), rfl, rs7, gx7⟩)
    · have hle1 : ¬ (n5 : Int) ≤ 11 := by omega
      have hle2 : (11 : Int) < (n5 : Int) := by omega
      have hmm : m5 = 11 := by omega
      subst hmm
      go_wp2_with fail
      all_goals first
        | (exfalso; omega)
        | (go_meet; exact ⟨by first | rfl | go_num | (congr 1; omega), rfl, rs7, gx7⟩)
  case rest =>
  obtain ⟨rfl, rfl, rs7, gx7⟩ := hcut
  obtain ⟨w7, hwc⟩ : ∃ W, W = wc := ⟨_, rfl⟩
  subst hwc
  clear hm5 hcN gx6 rs6
  obtain ⟨ie, hie, ze0, ze1, ze2⟩ := info_parts Try.infoEnt
  obtain ⟨ia, hia, za0, za1, za2⟩ := info_parts Try.infoAttr
  go_wp2_with fail
  go_loopw [33] (fun i wr => ∃ (k : Nat) (v2 : Value), k ≤ m5 ∧ i = .int .i64 k ∧ RI wr (w.heap.size + 1) a n cap (rdE zs s5 k).2 ∧ GX w wr X #[.int .i64 (i1 : Int), .int .i64 (i2 : Int), .int .i64 (i3 : Int), V1, v2, .slice none 0 0] V1 (strZ d) v2 (rdE zs s5 k).1 (.slice none 0 0) []) (fun i _ => m5 - (intOf i).toNat)
  case atStart => exact ⟨0, .slice none 0 0, by omega, rfl, rs7, gx7⟩
  case round =>
    obtain ⟨k, v2, hkm, rfl, rsk, gxk⟩ := hrel
    have hlk := rdE_len zs s5 k
    have hes : Hid ((rdE zs s5 (k + 1)).1 = (rdE zs s5 k).1 ++ [((rdT zs (rdE zs s5 k).2).1, ((rdN zs (rdT zs (rdE zs s5 k).2).2).1 : Int))] ∧ (rdE zs s5 (k + 1)).2 = (rdN zs (rdT zs (rdE zs s5 k).2).2).2) := ⟨rfl, rfl⟩
    have hend : Hid (k = m5 → (gE zs).1 = (rdE zs s5 k).1 ∧ (gE zs).2 = (rdE zs s5 k).2) := by
      intro h
      unfold gE
      rw [E5.out, S5.out, HM5.out, h]
      exact ⟨rfl, rfl⟩
    obtain ⟨es, hes'⟩ : ∃ l, (rdE zs s5 k).1 = l := ⟨_, rfl⟩
    obtain ⟨st, hst'⟩ : ∃ l, (rdE zs s5 k).2 = l := ⟨_, rfl⟩
    rw [hes', hst'] at hes hend
    rw [hes'] at gxk hlk
    rw [hst'] at rsk
    clear hes' hst'
    by_cases hgo : k < m5
    · have hk1' : (k : Int) < (m5 : Int) := by omega
      have hcT := CT.out wr st rsk gxk.below
      obtain ⟨z, hz⟩ : ∃ i, (rdT zs st).1 = i := ⟨_, rfl⟩
      obtain ⟨sz, hsz⟩ : ∃ i, (rdT zs st).2 = i := ⟨_, rfl⟩
      rw [hz, hsz] at hcT hes
      clear hz hsz hend
      go_wp2_with fail
      refine hcT.mono ?_
      rintro e w8 ⟨rfl, rs8, gr8⟩
      have gx8 := gxk.kp (rsk.kpt gr8) (below_but gxk.below gr8 (Nat.le_refl _) (by omega) (by omega))
      have rs8d := rs8.keep (Below.refl w8.heap.size w8).drew
      have gx8d := gx8.keep (Below.refl w8.heap.size w8).drew
      have hcN := CN.out w8.drew sz rs8d gx8d.below
      obtain ⟨x, hx⟩ : ∃ i, (rdN zs sz).1 = i := ⟨_, rfl⟩
      obtain ⟨sx, hsx⟩ : ∃ i, (rdN zs sz).2 = i := ⟨_, rfl⟩
      rw [hx, hsx] at hcN hes
      clear hx hsx hcT gr8 rsk gxk
      have x4 := gx8.x.cell 4
      simp at x4
      go_upto_region 10 with fail
      go_region_law (first
        | (go_simp; go_at_call 112; (with_reducible refine hcN.mono ?_); rintro e w10 ⟨rfl, rs10, gr10⟩; have gx10 := gx8d.kp (rs8d.kpt gr10) (below_but gx8d.below gr10 (Nat.le_refl _) (by omega) (by omega)); have x4' := gx10.x.cell 4; have x4'' := (gx10.x.alloc (.cells #[.string z, .int .i64 (x : Int)] 35)).cell 4; simp at x4' x4''; have hrow := World.ownsRow.alloc gx10.e (.cells #[.string z, .int .i64 (x : Int)] 35); rw [hlk] at hrow; have hbw : w.heap.size ≤ (w10.alloc (.cells #[.string z, .int .i64 (x : Int)] 35)).heap.size := (by simp; have := gx10.below.size; omega); dsimp only)
        | (refine step_append_lies (w10.alloc (.cells #[.string z, .int .i64 (x : Int)] 35)) rfl (.tmp 38) (.tmp 43) 24 rfl w.heap.size 35 ie _ 2 24 Try.underlying24 hie ze0 ze1 ze2 rfl (by omega) v2 k (pv (eP es)) rfl hrow ⟨w10.heap.size, 0, none⟩ 1 1 [.string z, .int .i64 (x : Int)] rfl rfl (pair_news w10 (.string z, .int .i64 (x : Int)) _) (by intro u hu; simp at hu; rcases hu with rfl | rfl <;> rfl) (by omega) (by unfold maxLen; omega) (by omega) hbw (w10.heap.size + 1) (by simp) ?_; intro g2 cc2 w12 ho12 hg12 hat12 hlt12; have gx12 := gx10.appE (.cells #[.string z, .int .i64 (x : Int)] 35) hg12 (.slice (some ⟨g2, 0, none⟩) (k + 1) cc2) (es ++ [(z, (x : Int))]) (by rw [show (es ++ [(z, (x : Int))]).length = k + 1 by simp [hlk], eP_snoc, pv_snoc]; exact ho12); have rs12 := rs10.app (.cells #[.string z, .int .i64 (x : Int)] 35) hg12 gx10.e (by decide); have c4 := gx12.x.cell 4; have f4 := gx12.x.frozen 4; simp at c4))
      all_goals (have gx13 : GX w (w12.setCell ⟨X, 4, none⟩ (.slice (some ⟨g2, 0, none⟩) (k + 1) cc2)) X #[.int .i64 (i1 : Int), .int .i64 (i2 : Int), .int .i64 (i3 : Int), V1, .slice (some ⟨g2, 0, none⟩) (k + 1) cc2, .slice none 0 0] V1 (strZ d) (.slice (some ⟨g2, 0, none⟩) (k + 1) cc2) (es ++ [(z, (x : Int))]) (.slice none 0 0) [] := gx12.setX 4 _; have rs13 := rs12.setX gx12.x 4 (.slice (some ⟨g2, 0, none⟩) (k + 1) cc2); clear gx12 rs12 gx10 rs10 hrow hbw)
      all_goals go_wp2
      all_goals go_roundw
      all_goals first
        | (case rel => exact ⟨k + 1, .slice (some ⟨g2, 0, none⟩) (k + 1) cc2, by omega, by go_num, by rw [hes.out.2]; exact rs13, by rw [hes.out.1]; exact gx13⟩)
        | (case measure => simp [intOf]; omega)
    · have hi1' : ¬ (k : Int) < (m5 : Int) := by omega
      obtain ⟨hE1, hE2⟩ := hend.out (by omega)
      have HE : Hid ((gE zs).1 = es ∧ (gE zs).2 = st) := ⟨hE1, hE2⟩
      clear hE1 hE2 hend hes
      go_upto_region 12 with fail
      have hcN := CN.out wr st rsk gxk.below
      have hn6 := rdN_le zs st
      obtain ⟨n6, hn6'⟩ : ∃ i, (rdN zs st).1 = i := ⟨_, rfl⟩
      obtain ⟨s6, hs6⟩ : ∃ i, (rdN zs st).2 = i := ⟨_, rfl⟩
      rw [hn6', hs6] at hcN
      rw [hn6'] at hn6
      have E6 : Hid ((g6 zs).1 = n6) := by show _ = _; unfold g6; rw [HE.out.2, hn6']
      have S6 : Hid ((g6 zs).2 = s6) := by show _ = _; unfold g6; rw [HE.out.2, hs6]
      clear hn6' hs6
      obtain ⟨m6, hm6⟩ : ∃ m, min n6 5 = m := ⟨_, rfl⟩
      have HM6 : Hid (min n6 5 = m6) := hm6
      have hm6l : m6 ≤ 5 := by omega
      go_cut [49, 50] (fun b c wx => b = .int .i64 (m6 : Int) ∧ c = .int .i64 0 ∧ RI wx (w.heap.size + 1) a n cap s6 ∧ GX w wx X #[.int .i64 (i1 : Int), .int .i64 (i2 : Int), .int .i64 (i3 : Int), V1, v2, .slice none 0 0] V1 (strZ d) v2 es (.slice none 0 0) [])
      case first =>
        go_wp2_with fail
        refine hcN.mono ?_
        rintro e w7 ⟨rfl, rs7, gr7⟩
        have gx7 := gxk.kp (rsk.kpt gr7) (below_but gxk.below gr7 (Nat.le_refl _) (by omega) (by omega))
        clear gxk rsk gr7 hcN
        by_cases hle : n6 ≤ 5
        · have hle1 : (n6 : Int) ≤ 5 := by omega
          have hle2 : ¬ (5 : Int) < (n6 : Int) := by omega
          have hmm : m6 = n6 := by omega
          subst hmm
          go_wp2_with fail
          all_goals first
            | (exfalso; omega)
            | (go_meet; exact ⟨by first | rfl | go_num | (congr 1; omega), rfl, rs7, gx7⟩)
        · have hle1 : ¬ (n6 : Int) ≤ 5 := by omega
          have hle2 : (5 : Int) < (n6 : Int) := by omega
          have hmm : m6 = 5 := by omega
          subst hmm
          go_wp2_with fail
          all_goals first
            | (exfalso; omega)
            | (go_meet; exact ⟨by first | rfl | go_num | (congr 1; omega), rfl, rs7, gx7⟩)
      case rest =>
      obtain ⟨rfl, rfl, rs14, gx14⟩ := hcut
      obtain ⟨w14, hwc⟩ : ∃ W, W = wc := ⟨_, rfl⟩
      subst hwc
      clear hm6 hcN gxk rsk
      go_wp2_with fail
      go_loopw [50] (fun i wr => ∃ (j : Nat) (v3 : Value), j ≤ m6 ∧ i = .int .i64 j ∧ RI wr (w.heap.size + 1) a n cap (rdA zs s6 j).2 ∧ GX w wr X #[.int .i64 (i1 : Int), .int .i64 (i2 : Int), .int .i64 (i3 : Int), V1, v2, v3] V1 (strZ d) v2 es v3 (rdA zs s6 j).1) (fun i _ => m6 - (intOf i).toNat)
      case atStart => exact ⟨0, .slice none 0 0, by omega, rfl, rs14, gx14⟩
      case round =>
        obtain ⟨j, v3, hjm, rfl, rsm, gxm⟩ := hrel
        have hlj := rdA_len zs s6 j
        have hats : Hid ((rdA zs s6 (j + 1)).1 = (rdA zs s6 j).1 ++ [((rdT zs (rdA zs s6 j).2).1, (rdT zs (rdT zs (rdA zs s6 j).2).2).1)] ∧ (rdA zs s6 (j + 1)).2 = (rdT zs (rdT zs (rdA zs s6 j).2).2).2) := ⟨rfl, rfl⟩
        have hend : Hid (j = m6 → (gA zs).1 = (rdA zs s6 j).1 ∧ (gA zs).2 = (rdA zs s6 j).2) := by
          intro h
          unfold gA
          rw [E6.out, S6.out, HM6.out, h]
          exact ⟨rfl, rfl⟩
        obtain ⟨ats, hats'⟩ : ∃ l, (rdA zs s6 j).1 = l := ⟨_, rfl⟩
        obtain ⟨sv, hsv'⟩ : ∃ l, (rdA zs s6 j).2 = l := ⟨_, rfl⟩
        rw [hats', hsv'] at hats hend
        rw [hats'] at gxm hlj
        rw [hsv'] at rsm
        clear hats' hsv'
        by_cases hgo : j < m6
        · have hj1' : (j : Int) < (m6 : Int) := by omega
          have hcT := CT.out _ sv rsm gxm.below
          obtain ⟨z, hz⟩ : ∃ i, (rdT zs sv).1 = i := ⟨_, rfl⟩
          obtain ⟨sz, hsz⟩ : ∃ i, (rdT zs sv).2 = i := ⟨_, rfl⟩
          rw [hz, hsz] at hcT hats
          clear hz hsz hend
          go_wp2_with fail
          refine hcT.mono ?_
          rintro e w8 ⟨rfl, rs8, gr8⟩
          have gx8 := gxm.kp (rsm.kpt gr8) (below_but gxm.below gr8 (Nat.le_refl _) (by omega) (by omega))
          have rs8d := rs8.keep (Below.refl w8.heap.size w8).drew
          have gx8d := gx8.keep (Below.refl w8.heap.size w8).drew
          have hcN := CT.out w8.drew sz rs8d gx8d.below
          obtain ⟨x, hx⟩ : ∃ i, (rdT zs sz).1 = i := ⟨_, rfl⟩
          obtain ⟨sx, hsx⟩ : ∃ i, (rdT zs sz).2 = i := ⟨_, rfl⟩
          rw [hx, hsx] at hcN hats
          clear hx hsx hcT gr8 rsm gxm
          have x4 := gx8.x.cell 5
          simp at x4
          go_upto_region 15 with fail
          go_region_law (first
            | (go_simp; go_at_call 114; (with_reducible refine hcN.mono ?_); rintro e w10 ⟨rfl, rs10, gr10⟩; have gx10 := gx8d.kp (rs8d.kpt gr10) (below_but gx8d.below gr10 (Nat.le_refl _) (by omega) (by omega)); have x4' := gx10.x.cell 5; have x4'' := (gx10.x.alloc (.cells #[.string z, .string x] 77)).cell 5; simp at x4' x4''; have hrow := World.ownsRow.alloc gx10.t (.cells #[.string z, .string x] 77); rw [hlj] at hrow; have hbw : w.heap.size ≤ (w10.alloc (.cells #[.string z, .string x] 77)).heap.size := (by simp; have := gx10.below.size; omega); dsimp only)
            | (refine step_append_lies (w10.alloc (.cells #[.string z, .string x] 77)) rfl (.tmp 55) (.tmp 60) 25 rfl w.heap.size 77 ia _ 2 32 Try.underlying25 hia za0 za1 za2 rfl (by omega) v3 j (pv (aP ats)) rfl hrow ⟨w10.heap.size, 0, none⟩ 1 1 [.string z, .string x] rfl rfl (pair_news w10 (.string z, .string x) _) (by intro u hu; simp at hu; rcases hu with rfl | rfl <;> rfl) (by omega) (by unfold maxLen; omega) (by omega) hbw (w10.heap.size + 1) (by simp) ?_; intro g2 cc2 w12 ho12 hg12 hat12 hlt12; have gx12 := gx10.appA (.cells #[.string z, .string x] 77) hg12 (.slice (some ⟨g2, 0, none⟩) (j + 1) cc2) (ats ++ [(z, x)]) (by rw [show (ats ++ [(z, x)]).length = j + 1 by simp [hlj], aP_snoc, pv_snoc]; exact ho12); have rs12 := rs10.app (.cells #[.string z, .string x] 77) hg12 gx10.t (by decide); have c4 := gx12.x.cell 5; have f4 := gx12.x.frozen 5; simp at c4))
          all_goals (have gx13 : GX w (w12.setCell ⟨X, 5, none⟩ (.slice (some ⟨g2, 0, none⟩) (j + 1) cc2)) X #[.int .i64 (i1 : Int), .int .i64 (i2 : Int), .int .i64 (i3 : Int), V1, v2, .slice (some ⟨g2, 0, none⟩) (j + 1) cc2] V1 (strZ d) v2 es (.slice (some ⟨g2, 0, none⟩) (j + 1) cc2) (ats ++ [(z, x)]) := gx12.setX 5 _; have rs13 := rs12.setX gx12.x 5 (.slice (some ⟨g2, 0, none⟩) (j + 1) cc2); clear gx12 rs12 gx10 rs10 hrow hbw)
          all_goals go_wp2
          all_goals go_roundw
          all_goals first
            | (case rel => (repeat apply Exists.intro); exact ⟨⟨j + 1, .slice (some ⟨g2, 0, none⟩) (j + 1) cc2, by omega, by go_num, by rw [hats.out.2]; exact rs13, by rw [hats.out.1]; exact gx13⟩, rfl⟩)
            | (case rel => exact ⟨j + 1, .slice (some ⟨g2, 0, none⟩) (j + 1) cc2, by omega, by go_num, by rw [hats.out.2]; exact rs13, by rw [hats.out.1]; exact gx13⟩)
            | (case measure => simp [intOf]; omega)
        · have hi2' : ¬ (j : Int) < (m6 : Int) := by omega
          obtain ⟨hA1, hA2⟩ := hend.out (by omega)
          have HA : Hid ((gA zs).1 = ats ∧ (gA zs).2 = sv) := ⟨hA1, hA2⟩
          clear hA1 hA2 hend hats rs14 gx14
          have hgo3 : Hid (gOk zs = (decide (sv = some n) && inoOk ⟨(i1 : Int), (i2 : Int), (i3 : Int), strZ d, es, ats⟩)) := by
            show _ = _
            unfold gOk gD
            rw [HA.out.1, HA.out.2, HE.out.1, E1.out, E2.out, E3.out, E4.out, hn]
          have hsmD : InoSmall ⟨(i1 : Int), (i2 : Int), (i3 : Int), strZ d, es, ats⟩ := by
            have := gD_small zs (by omega)
            unfold gD at this
            rw [HA.out.1, HE.out.1, E1.out, E2.out, E3.out, E4.out] at this
            exact this
          have HSM : Hid _ := hsmD
          have hcE := CE.out _ sv rsm
          have HN : Hid (zs.length = n) := hn
          clear hsmD CN CT CE hr hb hie ze0 ze1 ze2 hia za0 za1 za2 hX hn
          generalize hdn : decide (sv = some n) = dn at hcE hgo3
          clear hdn
          obtain ⟨a2, cc2, hv2, rd2⟩ := row_form gxm.e
          obtain ⟨a3, cc3, hv3, rd3⟩ := row_form gxm.t
          subst hv2 hv3
          obtain ⟨w15, hw15⟩ : ∃ W, W = wr := ⟨_, rfl⟩
          subst hw15
          obtain ⟨x0, x1, x2, x3, x4, x5⟩ := gxm.x.six
          go_upto_region 17 with fail
          go_cut [71] (fun s wx => s = .bool (!gOk zs) ∧ Below w15.heap.size w15 wx)
          case first =>
            have hbD : OwnB w15 w4.heap.size (strZ d).length (strZ d) := by
              rcases gxm.d with h0 | ⟨g, c, h0, hg, ho⟩
              · rw [← hV1] at h0
                simp at h0
              · rw [← hV1] at h0
                simp at h0
                obtain ⟨rfl, _, _⟩ := h0
                exact ho
            have hcI : Calls Try.prog 17 #[.agg #[.int .i64 (i1 : Int), .int .i64 (i2 : Int), .int .i64 (i3 : Int), V1, .slice a2 es.length cc2, .slice a3 ats.length cc3]] w15 (fun e w' => e = .returned (.bool (inoOk ⟨(i1 : Int), (i2 : Int), (i3 : Int), strZ d, es, ats⟩)) ∧ Below w15.heap.size w15 w') := by
              rw [← hV1, ← hlD]
              exact inoOkI ⟨(i1 : Int), (i2 : Int), (i3 : Int), strZ d, es, ats⟩ (some ⟨w4.heap.size, 0, none⟩) a2 a3 c5 cc2 cc3 w15 HSM.out ⟨hbD.rd, strZ_byt' d, rd2, rd3⟩
            clear rd2 rd3 hbD gxm rsm hlj hlk
            generalize inoOk ⟨(i1 : Int), (i2 : Int), (i3 : Int), strZ d, es, ats⟩ = ok at hcI hgo3
            cases dn with
            | false =>
              go_wp2_with fail
              refine hcE.mono ?_
              rintro e w16 ⟨rfl, hw⟩
              obtain rfl := hw.symm
              go_wp2_with fail
              go_meet
              exact ⟨by rw [hgo3.out]; rfl, Below.refl _ _⟩
            | true =>
              go_wp2_with fail
              refine hcE.mono ?_
              rintro e w16 ⟨rfl, hw⟩
              obtain rfl := hw.symm
              go_wp2_with fail
              (with_reducible refine hcI.mono ?_)
              rintro e w17 ⟨rfl, b17⟩
              go_wp2_with fail
              go_meet
              exact ⟨by rw [hgo3.out, Bool.true_and], b17⟩
          case rest =>
          obtain ⟨rfl, b16⟩ := hcut
          obtain ⟨w16, hwc⟩ : ∃ W, W = wc := ⟨_, rfl⟩
          subst hwc
          have gxn := gxm.keep b16
          have HV : Hid _ := hV1
          clear x0 x1 x2 x3 x4 x5 gxm rsm hcE hlD hlk hlj rd2 rd3 b16 HM5 HM6 hgo3 HSM
          have fz0 := gxn.res.frozen 0
          have fz1 := gxn.res.frozen 1
          have fz2 := gxn.res.frozen 2
          have fz3 := gxn.res.frozen 3
          have fz4 := gxn.res.frozen 4
          have fz5 := gxn.res.frozen 5
          obtain ⟨t0, t1, t2, t3, t4, t5⟩ := gxn.res.six
          cases hok : gOk zs with
          | false =>
            have HG : Hid _ := gxn
            have HO : Hid _ := hok
            clear gxn hok
            clear hV1
            go_wp2
            have zf := (((((HG.out.res.set 0 (.int .i64 0)).set 1 (.int .i64 0)).set 2 (.int .i64 0)).set 3 (.slice none 0 0)).set 4 (.slice none 0 0)).set 5 (.slice none 0 0)
            have dd0 := zf.cell 0
            have dd1 := zf.cell 1
            have dd2 := zf.cell 2
            have dd3 := zf.cell 3
            have dd4 := zf.cell 4
            have dd5 := zf.cell 5
            simp at dd0 dd1 dd2 dd3 dd4 dd5
            refine bodyPost_ret (v := .tuple #[.agg #[.int .i64 0, .int .i64 0, .int .i64 0, .slice none 0 0, .slice none 0 0, .slice none 0 0], .bool false]) (by simp [results, Try.f18, go_sem, dd0, dd1, dd2, dd3, dd4, dd5]) rfl ?_
            exact ⟨.inr ⟨HO.out, rfl⟩, ((((((HG.out.below.setCell (p := ⟨w.heap.size, 0, none⟩) (Nat.le_refl _) _).setCell (p := ⟨w.heap.size, 1, none⟩) (Nat.le_refl _) _).setCell (p := ⟨w.heap.size, 2, none⟩) (Nat.le_refl _) _).setCell (p := ⟨w.heap.size, 3, none⟩) (Nat.le_refl _) _).setCell (p := ⟨w.heap.size, 4, none⟩) (Nat.le_refl _) _).setCell (p := ⟨w.heap.size, 5, none⟩) (Nat.le_refl _) _)⟩
          | true =>
            subst hV1
            obtain ⟨x0, x1, x2, x3, x4, x5⟩ := gxn.x.six
            have kF := six_kp gxn.res (.int .i64 (i1 : Int)) (.int .i64 (i2 : Int)) (.int .i64 (i3 : Int)) (.slice (some ⟨w4.heap.size, 0, none⟩) d.size c5) (.slice a2 es.length cc2) (.slice a3 ats.length cc3)
            have hF1 := gxn.d.imp id (fun q => q.kp kF (by decide))
            have hF2 := row_kp gxn.e kF (by decide)
            have hF3 := row_kp gxn.t kF (by decide)
            have HFF : Hid _ := And.intro hF1 (And.intro hF2 hF3)
            clear hF1 hF2 hF3 kF
            have HG : Hid _ := gxn
            have HO : Hid _ := hok
            clear gxn hok
            go_wp2
            have zf := (((((HG.out.res.set 0 (.int .i64 (i1 : Int))).set 1 (.int .i64 (i2 : Int))).set 2 (.int .i64 (i3 : Int))).set 3 (.slice (some ⟨w4.heap.size, 0, none⟩) d.size c5)).set 4 (.slice a2 es.length cc2)).set 5 (.slice a3 ats.length cc3)
            have dd0 := zf.cell 0
            have dd1 := zf.cell 1
            have dd2 := zf.cell 2
            have dd3 := zf.cell 3
            have dd4 := zf.cell 4
            have dd5 := zf.cell 5
            simp at dd0 dd1 dd2 dd3 dd4 dd5
            refine bodyPost_ret (v := .tuple #[.agg #[.int .i64 (i1 : Int), .int .i64 (i2 : Int), .int .i64 (i3 : Int), .slice (some ⟨w4.heap.size, 0, none⟩) d.size c5, .slice a2 es.length cc2, .slice a3 ats.length cc3], .bool true]) (by simp [results, Try.f18, go_sem, dd0, dd1, dd2, dd3, dd4, dd5]) rfl ?_
            refine ⟨.inl ⟨HO.out, _, _, _, by rw [E1.out, E2.out, E3.out], ?_, ?_, ?_⟩, ((((((HG.out.below.setCell (p := ⟨w.heap.size, 0, none⟩) (Nat.le_refl _) _).setCell (p := ⟨w.heap.size, 1, none⟩) (Nat.le_refl _) _).setCell (p := ⟨w.heap.size, 2, none⟩) (Nat.le_refl _) _).setCell (p := ⟨w.heap.size, 3, none⟩) (Nat.le_refl _) _).setCell (p := ⟨w.heap.size, 4, none⟩) (Nat.le_refl _) _).setCell (p := ⟨w.heap.size, 5, none⟩) (Nat.le_refl _) _)⟩
            · rw [E4.out]
              rcases HFF.out.1 with h0 | h0
              · simp at h0
              · exact h0
            · rw [HE.out.1]
              exact HFF.out.2.1
            · rw [HA.out.1]
              exact HFF.out.2.2
end Go.Proofs.Ytnllhpeddoaehaa
