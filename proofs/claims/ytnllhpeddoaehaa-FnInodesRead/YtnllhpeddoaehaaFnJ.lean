/-
  What the law on the bytes of inodes needs: the specification's PutInode, l3Copy, SameInode; drawn bytes, two drawn inodes; bytes compared.
-/
import Derived.Test.YtnllhpeddoaehaaInoEnc
import Derived.Test.YtnllhpeddoaehaaMarkIno
import Derived.Deep.DeepCutAuto
import Derived.Deep.RegionHeld3
import Derived.Test.YtnllhpeddoaehaaMarkGI
import Derived.Deep.AppendSrc
import Derived.Deep.AppendLies
import Derived.Test.YtnllhpeddoaehaaSameI
import Derived.Test.YtnllhpeddoaehaaDraw3
import Derived.Test.YtnllhpeddoaehaaFnI
import Derived.Test.YtnllhpeddoaehaaSameB
namespace Go.Proofs.Ytnllhpeddoaehaa
open Go.RowKit

theorem specText' (g c : Nat) (acc : List Int) (z : ByteArray) (W : World) (hs : acc.length ≤ 100000) (hz : z.size ≤ 100000) (ho : Own W g acc.length c acc) :
    Calls Try.prog 118 #[.slice (some ⟨g, 0, none⟩) acc.length c, .string z] W (PutPost W (acc ++ encT z).length (acc ++ encT z)) := by
  have h := specPutText_any ⟨g, 0, none⟩ acc.length c acc z W rfl (by omega) (by omega) ho.rd
  rw [List.append_assoc, show enc (z.size : Int) ++ strZ z = encT z from rfl, show acc.length + (enc (z.size : Int)).length + z.size = (acc ++ encT z).length by rw [List.length_append, encT, List.length_append, strZ_len]; omega] at h
  exact h
theorem specNum' (g c : Nat) (acc : List Int) (x : Int) (W : World) (hs : acc.length ≤ 100000) (ho : Own W g acc.length c acc) :
    Calls Try.prog 117 #[.slice (some ⟨g, 0, none⟩) acc.length c, .int .i64 x] W (PutPost W (acc ++ enc x).length (acc ++ enc x)) := by
  have h := specPutNum_any ⟨g, 0, none⟩ acc.length c acc x W rfl (by omega) ho.rd
  rw [← List.length_append] at h
  exact h
theorem specNum0 (ad : Addr) (x : Int) (W : World) :
    Calls Try.prog 117 #[.slice (some ad) 0 0, .int .i64 x] W (PutPost W (enc x).length (enc x)) := by
  have h := specPutNum_any ad 0 0 [] x W rfl (by omega) (.inl rfl)
  rw [Nat.zero_add, List.nil_append] at h
  exact h

set_option maxRecDepth 100000 in
set_option maxHeartbeats 8000000 in
theorem putS_yes (D : InoD) (a1 a2 a3 : Option Addr) (c1 c2 c3 : Nat) (w : World) (hm : InoSmall D) (hr : InoRd w D a1 a2 a3) (hok : inoOk D = true) :
    Calls Try.prog 67 #[inoV D a1 c1 a2 c2 a3 c3] w (PutPost w (inoEnc D).length (inoEnc D)) := by
  have hlim := inoOk_lim hok
  have l1 := hlim.data
  have l2 := hlim.ents
  have l3 := hlim.attrs
  have B0 : Below w.heap.size w (w.alloc (.cells (inoC D a1 c1 a2 c2 a3 c3) 27)) := (Below.refl _ w).alloc (Nat.le_refl _) _
  have z0 := Box.new w 27 D a1 a2 a3 c1 c2 c3
  unfold inoC at B0 z0
  rw [show inoV D a1 c1 a2 c2 a3 c3 = .agg #[.int .i64 D.ino, .int .i64 D.kind, .int .i64 D.links, .slice a1 D.data.length c1, .slice a2 D.ents.length c2, .slice a3 D.attrs.length c3] from rfl]
  go_enter Try.func67, Try.ntmps67
  go_wp2_with fail
  obtain ⟨W0, hW0⟩ : ∃ W, w.alloc (.cells #[.int .i64 D.ino, .int .i64 D.kind, .int .i64 D.links, .slice a1 D.data.length c1, .slice a2 D.ents.length c2, .slice a3 D.attrs.length c3] 27) = W := ⟨_, rfl⟩
  rw [hW0] at B0 z0 ⊢
  clear hW0
  refine (inoOkS D a1 a2 a3 c1 c2 c3 W0 hm (hr.keep B0)).mono ?_
  rintro e w1 ⟨rfl, b1⟩
  rw [hok]
  have B1 := B0.trans (b1.mono B0.size)
  have z1 := z0.keep b1
  have r1 := hr.keep B1
  have hb1 := B1.size
  clear B0 z0 b1 hr hm
  obtain ⟨q0, q1, q2, q3, q4, q5⟩ := z1.six
  have L1 := enc_len D.ino
  have L2 := enc_len D.kind
  have L3 := enc_len D.links
  have bX : Below w1.heap.size w1 (w1.alloc (.cells #[] 5)).drew := ((Below.refl _ w1).alloc (Nat.le_refl _) _).drew
  have zX := z1.keep bX
  have bX' : Below w1.heap.size w1 (w1.alloc (.cells #[] 5)) := (Below.refl _ w1).alloc (Nat.le_refl _) _
  obtain ⟨i0, i1, i2, i3, i4, i5⟩ := (z1.keep bX').six
  have n1 : ∀ (W : World) (ad : Addr), Calls Try.prog 117 #[.slice (some ad) 0 0, .int .i64 D.ino] W (PutPost W (enc D.ino).length (enc D.ino)) := fun W ad => specNum0 ad D.ino W
  have n2 : ∀ (W : World) (g c : Nat), Own W g (enc D.ino).length c (enc D.ino) → Calls Try.prog 117 #[.slice (some ⟨g, 0, none⟩) (enc D.ino).length c, .int .i64 D.kind] W (PutPost W (enc D.ino ++ enc D.kind).length (enc D.ino ++ enc D.kind)) := fun W g c h => specNum' g c _ D.kind W (by omega) h
  have n3 : ∀ (W : World) (g c : Nat), Own W g (enc D.ino ++ enc D.kind).length c (enc D.ino ++ enc D.kind) → Calls Try.prog 117 #[.slice (some ⟨g, 0, none⟩) (enc D.ino ++ enc D.kind).length c, .int .i64 D.links] W (PutPost W (enc D.ino ++ enc D.kind ++ enc D.links).length (enc D.ino ++ enc D.kind ++ enc D.links)) := fun W g c h => specNum' g c _ D.links W (by rw [List.length_append]; omega) h
  have HY : Hid (enc D.ino ++ enc D.kind ++ enc D.links = encs [D.ino, D.kind, D.links]) := by show _ = _; simp [encs]
  have f1 : (enc D.ino ++ enc D.kind ++ enc D.links).length ≤ 12 := by rw [List.length_append, List.length_append]; omega
  obtain ⟨Y1, hY1⟩ : ∃ Y, enc D.ino = Y := ⟨_, rfl⟩
  rw [hY1] at n1 n2 n3 HY f1
  obtain ⟨Y2, hY2⟩ : ∃ Y, Y1 ++ enc D.kind = Y := ⟨_, rfl⟩
  rw [hY2] at n2 n3 HY f1
  obtain ⟨Y3, hY3⟩ : ∃ Y, Y2 ++ enc D.links = Y := ⟨_, rfl⟩
  rw [hY3] at n3 HY f1
  clear hY1 hY2 hY3 L1 L2 L3
  go_upto_region 3 with fail
  go_cut [3] (fun s wx => ∃ g c, s = .slice (some ⟨g, 0, none⟩) Y3.length c ∧ w1.heap.size ≤ g ∧ Own wx g Y3.length c Y3 ∧ Below w1.heap.size w1 wx)
  case first =>
    go_region_held3 (fun W : World => W.cell? ⟨w.heap.size, 0, none⟩ = some (.int .i64 D.ino) ∧ W.cell? ⟨w.heap.size, 1, none⟩ = some (.int .i64 D.kind) ∧ W.cell? ⟨w.heap.size, 2, none⟩ = some (.int .i64 D.links)) (go_keep) (first
      | (go_at_call 117; (with_reducible refine (n1 _ _).mono ?_); rintro e wA ⟨gA, cA, rfl, hgA, oA, bA⟩; have zA := zX.keep bA; obtain ⟨s0, s1, s2, s3, s4, s5⟩ := zA.six)
      | (go_at_call 117; (with_reducible refine (n2 wA gA cA oA).mono ?_); rintro e wB ⟨gB, cB, rfl, hgB, oB, bB⟩; have zB := zA.keep bB; obtain ⟨t0, t1, t2, t3, t4, t5⟩ := zB.six)
      | (go_at_call 117; (with_reducible refine (n3 wB gB cB oB).mono ?_); rintro e wC ⟨gC, cC, rfl, hgC, oC, bC⟩; obtain ⟨r0, r1, r2, r3, r4, r5⟩ := (zB.keep bC).six))
    all_goals (go_wp2_with fail; go_meet; have t1 := bX.trans (bA.mono bX.size); have t2 := t1.trans (bB.mono t1.size); exact ⟨gC, cC, rfl, Nat.le_trans t2.size hgC, oC, t2.trans (bC.mono t2.size)⟩)
  case rest =>
  obtain ⟨g, c, rfl, hg, o2, T2⟩ := hcut
  obtain ⟨w2, hwc⟩ : ∃ W, W = wc := ⟨_, rfl⟩
  subst hwc
  clear n1 n2 n3 q0 q1 q2 q3 q4 q5 zX bX bX' i0 i1 i2 i3 i4 i5
  have z2 := z1.keep T2
  obtain ⟨q0, q1, q2, q3, q4, q5⟩ := z2.six
  have e2 : (encT (str D.data)).length ≤ 104 := by have := encT_len (str D.data); rw [str_size] at this; omega
  have hst : (str D.data).size ≤ 100 := by rw [str_size]; omega
  have LE := enc_len (D.ents.length : Int)
  obtain ⟨S, hS⟩ : ∃ S, str D.data = S := ⟨_, rfl⟩
  have hcv0 : ∀ W : World, Below w1.heap.size w1 W → (convert 22 9 (.slice a1 D.data.length c1)).run Try.prog W = .ok (.string S) W := fun W h => by rw [← hS]; exact conv_any W a1 D.data.length c1 D.data rfl (r1.data.keep h)
  have hcv := hcv0 w2 T2
  have hcvd := hcv0 w2.drew T2.drew
  rw [hS] at e2 hst
  have HH : Hid (encH D = Y3 ++ encT S ++ enc (D.ents.length : Int)) := by show _ = _; unfold encH; rw [hS, ← HY.out, encTs_one, encs_one]
  have HCV : Hid _ := hcv0
  clear HY hS hcv0
  have m1 : ∀ (W : World), Own W g Y3.length c Y3 → Calls Try.prog 118 #[.slice (some ⟨g, 0, none⟩) Y3.length c, .string S] W (PutPost W (Y3 ++ encT S).length (Y3 ++ encT S)) := fun W h => specText' g c _ S W (by omega) (by omega) h
  have m2 : ∀ (W : World) (g c : Nat), Own W g (Y3 ++ encT S).length c (Y3 ++ encT S) → Calls Try.prog 117 #[.slice (some ⟨g, 0, none⟩) (Y3 ++ encT S).length c, .int .i64 (D.ents.length : Int)] W (PutPost W (Y3 ++ encT S ++ enc (D.ents.length : Int)).length (Y3 ++ encT S ++ enc (D.ents.length : Int))) := fun W g c h => specNum' g c _ _ W (by rw [List.length_append]; omega) h
  have e4 : (encH D).length ≤ 120 := by rw [HH.out, List.length_append, List.length_append]; omega
  rw [← HH.out] at m2
  obtain ⟨Y4, hY4⟩ : ∃ Y, Y3 ++ encT S = Y := ⟨_, rfl⟩
  rw [hY4] at m1 m2
  obtain ⟨A4, hA4⟩ : ∃ A, encH D = A := ⟨_, rfl⟩
  rw [hA4] at m2 e4
  clear hY4 HH
  have o2d : Own w2.drew g Y3.length c Y3 := o2
  have z2d := z2.keep (Below.refl w2.heap.size w2).drew
  have hw2 := T2.size
  go_upto_region 4 with fail
  go_cut [3] (fun s wx => ∃ g c, s = .slice (some ⟨g, 0, none⟩) A4.length c ∧ w1.heap.size ≤ g ∧ Own wx g A4.length c A4 ∧ Below w1.heap.size w1 wx)
  case first =>
    go_region_held3 (fun W : World => W.cell? ⟨w.heap.size, 3, none⟩ = some (.slice a1 D.data.length c1) ∧ W.cell? ⟨w.heap.size, 4, none⟩ = some (.slice a2 D.ents.length c2) ∧ (convert 22 9 (.slice a1 D.data.length c1)).run Try.prog W = .ok (.string S) W) (go_keep) (first
      | (go_at_call 118; (with_reducible refine (m1 w2.drew o2d).mono ?_); rintro e wA ⟨gA, cA, rfl, hgA, oA, bA⟩; have zA := z2d.keep bA; have tA := T2.drew.trans (bA.mono hw2); have cvA := HCV.out wA tA; obtain ⟨s0, s1, s2, s3, s4, s5⟩ := zA.six)
      | (go_at_call 117; (with_reducible refine (m2 wA gA cA oA).mono ?_); rintro e wB ⟨gB, cB, rfl, hgB, oB, bB⟩; obtain ⟨r0, r1, r2, r3, r4, r5⟩ := (zA.keep bB).six; have cvB := HCV.out wB (tA.trans (bB.mono tA.size))))
    all_goals (go_wp2_with fail; go_meet; have t1 := T2.drew.trans (bA.mono hw2); exact ⟨gB, cB, rfl, Nat.le_trans t1.size hgB, oB, t1.trans (bB.mono t1.size)⟩)
  case rest =>
  obtain ⟨g3, c3', rfl, hg3, o3, T3⟩ := hcut
  obtain ⟨w3, hwc⟩ : ∃ W, W = wc := ⟨_, rfl⟩
  subst hwc
  clear m1 m2 q0 q1 q2 q3 q4 q5 z2 z2d o2 o2d T2 hcv hcvd hw2 e2 hst LE f1
  have HE : Hid (RdP w1 a2 (eP D.ents)) := r1.ents
  have HA : Hid (RdP w1 a3 (aP D.attrs)) := r1.attrs
  have HZ : Hid (∀ W : World, Below w1.heap.size w1 W → W.cell? ⟨w.heap.size, 4, none⟩ = some (.slice a2 D.ents.length c2) ∧ W.cell? ⟨w.heap.size, 5, none⟩ = some (.slice a3 D.attrs.length c3)) := fun W h => ⟨(z1.keep h).six.c4, (z1.keep h).six.c5⟩
  obtain ⟨ents, hents⟩ : ∃ l, D.ents = l := ⟨_, rfl⟩
  obtain ⟨attrs, hattrs⟩ : ∃ l, D.attrs = l := ⟨_, rfl⟩
  have s4 := hlim.entsz
  have s5 := hlim.attrsz
  rw [hents] at HE s4 l2 HZ
  rw [hattrs] at HA s5 l3 HZ
  have HEnc : Hid (inoEnc D = A4 ++ ents.flatMap entE ++ encs [(attrs.length : Int)] ++ attrs.flatMap attE) := by show _ = _; unfold inoEnc; rw [hents, hattrs, hA4]
  obtain ⟨n2, hn2⟩ : ∃ n, ents.length = n := ⟨_, rfl⟩
  obtain ⟨n3, hn3⟩ : ∃ n, attrs.length = n := ⟨_, rfl⟩
  rw [hn2] at l2 HZ
  rw [hn3] at l3 HEnc HZ
  have K2 : Hid (ents.length = n2) := hn2
  have K3 : Hid (attrs.length = n3) := hn3
  clear hents hattrs hn2 hn3 hA4 hlim r1 z1
  have q4 := (HZ.out w3 T3).1
  go_wp2
  go_loopw [3, 4] (fun v i wr => ∃ (k g c : Nat) (acc : List Int), k ≤ n2 ∧ i = .int .i64 k ∧ v = .slice (some ⟨g, 0, none⟩) acc.length c ∧ w1.heap.size ≤ g ∧ Own wr g acc.length c acc ∧ Below w1.heap.size w1 wr ∧ acc.length ≤ 120 + 22 * k ∧ Hid (acc = A4 ++ (ents.take k).flatMap entE)) (fun _ i _ => n2 - (intOf i).toNat)
  case atStart => exact ⟨0, g3, c3', A4, Nat.zero_le _, rfl, rfl, hg3, o3, T3, by omega, by show _ = _; simp⟩
  case round =>
    obtain ⟨k, gk, ck, acc, hk, rfl, rfl, hgk, ho, hB, hlen, hacc⟩ := hrel
    have hbs := hB.size
    have x4 := (HZ.out wr hB).1
    by_cases hkn : k < n2
    · have hkl : k < ents.length := by rw [K2.out]; exact hkn
      have hki : (k : Int) < (n2 : Int) := by omega
      obtain ⟨b, off, rfl, hlt, hc⟩ := RdP.lt HE.out (by intro h; have := congrArg List.length h; rw [eP_length] at this; simp at this; rw [this] at hkl; simp at hkl)
      have hx := hc k (by rw [eP_length]; exact hkl)
      rw [eP_at ents k hkl] at hx
      clear hc
      have hz14 := s4 ents[k] (List.getElem_mem hkl)
      have hnx := fm_take entE ents k hkl
      obtain ⟨z, hz⟩ : ∃ z, ents[k].1 = z := ⟨_, rfl⟩
      obtain ⟨x, hx'⟩ : ∃ u, ents[k].2 = u := ⟨_, rfl⟩
      have hee : entE ents[k] = encT z ++ enc x := by unfold entE; rw [hz, hx']
      rw [hz, hx'] at hx
      rw [hz] at hz14
      rw [hee] at hnx
      have hacc' : Hid (acc ++ encT z ++ enc x = A4 ++ (ents.take (k + 1)).flatMap entE) := by show _ = _; rw [hacc.out, hnx]; simp only [List.append_assoc]
      have HX : Hid (∀ W : World, Below w1.heap.size w1 W → W.cell? ⟨b, off + k * 2, none⟩ = some (.string z) ∧ W.cell? ⟨b, off + k * 2 + 1, none⟩ = some (.int .i64 x)) := fun W h => ⟨(h.cell (by exact hlt)).trans hx.1, (h.cell (by exact hlt)).trans hx.2⟩
      obtain ⟨x1, x2⟩ := HX.out wr hB
      have E1 := encT_len z
      have E2 := enc_len x
      have f2 : (acc ++ encT z ++ enc x).length ≤ acc.length + 22 := by rw [List.length_append, List.length_append]; omega
      have p1 : ∀ (W : World), Own W gk acc.length ck acc → Calls Try.prog 118 #[.slice (some ⟨gk, 0, none⟩) acc.length ck, .string z] W (PutPost W (acc ++ encT z).length (acc ++ encT z)) := fun W h => specText' gk ck _ z W (by omega) (by omega) h
      have p2 : ∀ (W : World) (g c : Nat), Own W g (acc ++ encT z).length c (acc ++ encT z) → Calls Try.prog 117 #[.slice (some ⟨g, 0, none⟩) (acc ++ encT z).length c, .int .i64 x] W (PutPost W (acc ++ encT z ++ enc x).length (acc ++ encT z ++ enc x)) := fun W g c h => specNum' g c _ _ W (by rw [List.length_append]; omega) h
      obtain ⟨bs, hbs'⟩ : ∃ l, acc ++ encT z = l := ⟨_, rfl⟩
      rw [hbs'] at hacc' f2 p1 p2
      obtain ⟨cs, hcs'⟩ : ∃ l, bs ++ enc x = l := ⟨_, rfl⟩
      rw [hcs'] at hacc' f2 p2
      have hod : Own wr.drew gk acc.length ck acc := ho
      clear hz hx' hee hnx hkl hx hbs' hcs' hacc E1 E2
      go_wp2
      go_region_held3 (fun W : World => W.cell? ⟨w.heap.size, 4, none⟩ = some (.slice (some ⟨b, off, none⟩) n2 c2) ∧ W.cell? ⟨b, off + k * 2, none⟩ = some (.string z) ∧ W.cell? ⟨b, off + k * 2 + 1, none⟩ = some (.int .i64 x)) (go_keep) (first
        | (go_at_call 118; (with_reducible refine (p1 wr.drew hod).mono ?_); rintro e wA ⟨gA, cA, rfl, hgA, oA, bA⟩; have tA := hB.drew.trans (bA.mono hbs); have y4 := (HZ.out wA tA).1; obtain ⟨y1, y2⟩ := HX.out wA tA)
        | (go_at_call 117; (with_reducible refine (p2 wA gA cA oA).mono ?_); rintro e wB ⟨gB, cB, rfl, hgB, oB, bB⟩; have tB := tA.trans (bB.mono tA.size); have v4 := HZ.out wB tB; have v5 := HX.out wB tB))
      all_goals go_wp2
      all_goals go_roundw
      all_goals first
        | (case rel => exact ⟨k + 1, gB, cB, cs, by omega, by go_num, rfl, Nat.le_trans tA.size hgB, oB, tA.trans (bB.mono tA.size), by omega, hacc'⟩)
        | (case measure => simp [intOf]; omega)
    · have hki : ¬ (k : Int) < (n2 : Int) := by omega
      obtain rfl : k = n2 := by omega
      have x5 := (HZ.out wr hB).2
      have hall : acc = A4 ++ ents.flatMap entE := by rw [hacc.out, List.take_of_length_le (by rw [K2.out]; omega)]
      have HEnc2 : Hid (inoEnc D = acc ++ enc (n3 : Int) ++ attrs.flatMap attE) := by show _ = _; rw [HEnc.out, hall, encs_one]
      have e5 : (acc ++ enc (n3 : Int)).length ≤ 344 := by rw [List.length_append]; have := enc_len (n3 : Int); omega
      have p0 := specNum' gk ck acc (n3 : Int) wr (by omega) ho
      obtain ⟨A5, hA5⟩ : ∃ A, acc ++ enc (n3 : Int) = A := ⟨_, rfl⟩
      rw [hA5] at p0 e5 HEnc2
      clear hA5 hall hacc HEnc
      go_wp2_with fail
      refine p0.mono ?_
      rintro e w5 ⟨g5, c5, rfl, hg5, o5, t5⟩
      have T5 := hB.trans (t5.mono hbs)
      have hg5' : w1.heap.size ≤ g5 := Nat.le_trans hbs hg5
      clear p0 x4 x5 ho hB t5
      have x5 := (HZ.out w5 T5).2
      go_wp2
      go_loopw [3, 5] (fun v i wr => ∃ (k g c : Nat) (acc : List Int), k ≤ n3 ∧ i = .int .i64 k ∧ v = .slice (some ⟨g, 0, none⟩) acc.length c ∧ w1.heap.size ≤ g ∧ Own wr g acc.length c acc ∧ Below w1.heap.size w1 wr ∧ acc.length ≤ 344 + 38 * k ∧ Hid (acc = A5 ++ (attrs.take k).flatMap attE)) (fun _ i _ => n3 - (intOf i).toNat)
      case atStart => exact ⟨0, g5, c5, A5, Nat.zero_le _, rfl, rfl, hg5', o5, T5, by omega, by show _ = _; simp⟩
      case round =>
        obtain ⟨k, gk, ck, acc, hk, rfl, rfl, hgk, ho, hB, hlen, hacc⟩ := hrel
        have hbs := hB.size
        have x4 := (HZ.out wr hB).2
        by_cases hkn : k < n3
        · have hkl : k < attrs.length := by rw [K3.out]; exact hkn
          have hki : (k : Int) < (n3 : Int) := by omega
          obtain ⟨b, off, rfl, hlt, hc⟩ := RdP.lt HA.out (by intro h; have := congrArg List.length h; rw [aP_length] at this; simp at this; rw [this] at hkl; simp at hkl)
          have hx := hc k (by rw [aP_length]; exact hkl)
          rw [aP_at attrs k hkl] at hx
          clear hc
          obtain ⟨hz14, hx16⟩ := s5 attrs[k] (List.getElem_mem hkl)
          have hnx := fm_take attE attrs k hkl
          obtain ⟨z, hz⟩ : ∃ z, attrs[k].1 = z := ⟨_, rfl⟩
          obtain ⟨x, hx'⟩ : ∃ u, attrs[k].2 = u := ⟨_, rfl⟩
          have hee : attE attrs[k] = encT z ++ encT x := by unfold attE; rw [hz, hx']
          rw [hz, hx'] at hx
          rw [hz] at hz14
          rw [hx'] at hx16
          rw [hee] at hnx
          have hacc' : Hid (acc ++ encT z ++ encT x = A5 ++ (attrs.take (k + 1)).flatMap attE) := by show _ = _; rw [hacc.out, hnx]; simp only [List.append_assoc]
          have HX : Hid (∀ W : World, Below w1.heap.size w1 W → W.cell? ⟨b, off + k * 2, none⟩ = some (.string z) ∧ W.cell? ⟨b, off + k * 2 + 1, none⟩ = some (.string x)) := fun W h => ⟨(h.cell (by exact hlt)).trans hx.1, (h.cell (by exact hlt)).trans hx.2⟩
          obtain ⟨x1, x2⟩ := HX.out wr hB
          have E1 := encT_len z
          have E2 := encT_len x
          have f2 : (acc ++ encT z ++ encT x).length ≤ acc.length + 38 := by rw [List.length_append, List.length_append]; omega
          have p1 : ∀ (W : World), Own W gk acc.length ck acc → Calls Try.prog 118 #[.slice (some ⟨gk, 0, none⟩) acc.length ck, .string z] W (PutPost W (acc ++ encT z).length (acc ++ encT z)) := fun W h => specText' gk ck _ z W (by omega) (by omega) h
          have p2 : ∀ (W : World) (g c : Nat), Own W g (acc ++ encT z).length c (acc ++ encT z) → Calls Try.prog 118 #[.slice (some ⟨g, 0, none⟩) (acc ++ encT z).length c, .string x] W (PutPost W (acc ++ encT z ++ encT x).length (acc ++ encT z ++ encT x)) := fun W g c h => specText' g c _ x W (by rw [List.length_append]; omega) (by omega) h
          obtain ⟨bs, hbs'⟩ : ∃ l, acc ++ encT z = l := ⟨_, rfl⟩
          rw [hbs'] at hacc' f2 p1 p2
          obtain ⟨cs, hcs'⟩ : ∃ l, bs ++ encT x = l := ⟨_, rfl⟩
          rw [hcs'] at hacc' f2 p2
          have hod : Own wr.drew gk acc.length ck acc := ho
          clear hz hx' hee hnx hkl hx hbs' hcs' hacc E1 E2
          go_wp2
          go_region_held3 (fun W : World => W.cell? ⟨w.heap.size, 5, none⟩ = some (.slice (some ⟨b, off, none⟩) n3 c3) ∧ W.cell? ⟨b, off + k * 2, none⟩ = some (.string z) ∧ W.cell? ⟨b, off + k * 2 + 1, none⟩ = some (.string x)) (go_keep) (first
            | (go_at_call 118; (with_reducible refine (p1 wr.drew hod).mono ?_); rintro e wA ⟨gA, cA, rfl, hgA, oA, bA⟩; have tA := hB.drew.trans (bA.mono hbs); have y4 := (HZ.out wA tA).2; obtain ⟨y1, y2⟩ := HX.out wA tA)
            | (go_at_call 118; (with_reducible refine (p2 wA gA cA oA).mono ?_); rintro e wB ⟨gB, cB, rfl, hgB, oB, bB⟩; have tB := tA.trans (bB.mono tA.size); have v4 := HZ.out wB tB; have v5 := HX.out wB tB))
          all_goals go_wp2
          all_goals go_roundw
          all_goals first
            | (case rel => exact ⟨k + 1, gB, cB, cs, by omega, by go_num, rfl, Nat.le_trans tA.size hgB, oB, tA.trans (bB.mono tA.size), by omega, hacc'⟩)
            | (case measure => simp [intOf]; omega)
        · have hki : ¬ (k : Int) < (n3 : Int) := by omega
          have hfin : inoEnc D = acc := by rw [HEnc2.out, hacc.out, List.take_of_length_le (by rw [K3.out]; omega)]
          go_wp2
          go_ret
          first
          | exact ⟨gk, ck, by rw [hfin]; rfl, Nat.le_trans hb1 hgk, by rw [hfin]; exact ho, B1.trans (hB.mono hb1)⟩
          | exact ⟨gk, ck, rfl, Nat.le_trans hb1 hgk, ho, B1.trans (hB.mono hb1)⟩

set_option maxHeartbeats 1000000 in
theorem putS_no (D : InoD) (a1 a2 a3 : Option Addr) (c1 c2 c3 : Nat) (w : World) (hm : InoSmall D) (hr : InoRd w D a1 a2 a3) (hok : inoOk D = false) :
    Calls Try.prog 67 #[inoV D a1 c1 a2 c2 a3 c3] w fun e w' => ∃ g : Nat, e = .returned (.slice (some ⟨g, 0, none⟩) 0 0) ∧ Below w.heap.size w w' := by
  have B0 : Below w.heap.size w (w.alloc (.cells (inoC D a1 c1 a2 c2 a3 c3) 27)) := (Below.refl _ w).alloc (Nat.le_refl _) _
  unfold inoC at B0
  rw [show inoV D a1 c1 a2 c2 a3 c3 = .agg #[.int .i64 D.ino, .int .i64 D.kind, .int .i64 D.links, .slice a1 D.data.length c1, .slice a2 D.ents.length c2, .slice a3 D.attrs.length c3] from rfl]
  go_enter Try.func67, Try.ntmps67
  go_wp2_with fail
  refine (inoOkS D a1 a2 a3 c1 c2 c3 _ hm (hr.keep B0)).mono ?_
  rintro e w1 ⟨rfl, b1⟩
  rw [hok]
  have B1 := B0.trans (b1.mono B0.size)
  go_wp2
  go_ret
  exact ⟨_, rfl, kp_b (Nat.le_refl _) B1 _⟩


/-- What is appended to a fresh empty list is a list of its own. -/
theorem run_fresh (W : World) (B : Nat) (t ty e : TypeId) (i : TypeInfo) (z : Value) (size bytes : Nat) (ht : Try.prog.underlying t = some (.slice e)) (hi : Try.prog.info? e = some i) (hz : i.zero = some z) (hsize : i.size = size) (hby : i.bytes = bytes) (hzs : z.cells.size = size) (hsz : 0 < size)
    (g : Nat) (hB : B ≤ g) (hown : W.ownsRow B e size (.slice (some ⟨g, 0, none⟩) 0 0) 0 []) (a : Option Addr) (m c : Nat) (news : List Value) (hl : news.length = m * size) (hnews : news = [] ∨ ∃ ad, a = some ad ∧ ∀ j u, news[j]? = some u → W.cell? (ad.add j) = some u) (ha : m = 0 → a = none ∨ ∃ ad, a = some ad)
    (h1 : ∀ u ∈ news, u.oneCell' = true) (h63 : m ≤ 8000000) (hb64 : bytes ≤ 64) :
    ∃ g' c' W', (Builtin.append_ #[t, t] ty #[.slice (some ⟨g, 0, none⟩) 0 0, .slice a m c]).run Try.prog W = .ok (.slice (some ⟨g', 0, none⟩) m c') W' ∧ W'.ownsRow B e size (.slice (some ⟨g', 0, none⟩) m c') m news ∧ B ≤ g' ∧ g' < W'.heap.size ∧ Below W.heap.size W W' := by
  have hglt : g < W.heap.size := (World.ownsRow.lt hown g rfl).2
  by_cases h0 : m = 0
  · subst h0
    obtain rfl : news = [] := List.length_eq_zero_iff.1 (by simpa using hl)
    have hsrc : Go.Src Try.prog i.size t (.slice a 0 c) 0 [] W := by
      rcases ha rfl with rfl | ⟨ad, rfl⟩
      · exact Go.Src.ofNil W ht c
      · exact Go.Src.ofSlice W ht ad 0 c [] (by simp) (fun j u hj => by simp at hj) (fun u hu => by simp at hu)
    have hr := run_append_room_src W t t ty e i ht hi g 0 0 0 (.slice a 0 c) 0 [] hsrc (Nat.le_refl _) (fun j hj => by simp at hj) (fun j hj => by simp at hj)
    refine ⟨g, 0, W, ?_, hown, hB, hglt, Below.refl _ _⟩
    rw [hr]
    rfl
  · have hne : news ≠ [] := fun e => by rw [e] at hl; have := Nat.mul_pos (show 0 < m by omega) hsz; simp only [List.length_nil] at hl; omega
    rcases hnews with e | ⟨ad, rfl, hn⟩
    · exact absurd e hne
    · obtain ⟨v', w', hr, h2, _, _, _⟩ := run_append_own_at (P := Try.prog) W B t ty e i z size bytes ht hi hz hsize hby hzs hsz _ 0 [] hown ad m c news hl hn h1 (by unfold maxLen; omega) (by have : (0 + m) * bytes ≤ 8000000 * 64 := Nat.mul_le_mul (by omega) hb64; omega) (by omega)
      have hsrc : Go.Src Try.prog i.size t (.slice (some ad) m c) m news W := Go.Src.ofSlice W ht ad m c news (by rw [hsize]; exact hl) hn h1
      have hcap : Builtin.nextslicecap (0 + m) 0 = m := by
        unfold Builtin.nextslicecap
        simp
        omega
      have hr2 := run_append_grow_src W t t ty e i z ht hi hz (some ⟨g, 0, none⟩) 0 0 [] (run_firstCells_some W.drew i.size 0 ⟨g, 0, none⟩ 0 0 [] (by simp) (fun j u hj => by simp at hj)) (.slice (some ad) m c) m news hsrc (by omega) (by omega) (by rw [hcap, hby]; have : m * bytes ≤ 8000000 * 64 := Nat.mul_le_mul h63 hb64; omega)
      rw [hr2] at hr
      simp only [Result.ok.injEq] at hr
      obtain ⟨rfl, rfl⟩ := hr
      rw [Nat.zero_add, List.nil_append] at h2
      refine ⟨W.heap.size, _, _, by rw [hr2]; simp only [Nat.zero_add, List.nil_append], h2, by omega, (World.ownsRow.lt h2 _ rfl).2, (Below.refl _ W).drew.alloc (Nat.le_refl _) _⟩

/-- The append at the operation. -/
theorem wpList_fresh (W : World) {ops : Array Oper} {rest : List Oper} {o : Oper} {a : Act} {Q : Exit → Act → World → Prop} (hgd : o.guard = none) (s x : Operand) (t : TypeId)
    (ho : o.op = .call { callee := .builtin .append, args := #[s, x], argTypes := #[t, t] }) (B : Nat) (g : Nat) (ad : Option Addr) (m c : Nat) (e : TypeId) (size : Nat) (news : List Value)
    (hs : a.eval s = .slice (some ⟨g, 0, none⟩) 0 0) (hx : a.eval x = .slice ad m c)
    (hr : ∀ ty, ∃ g' c' W', (Builtin.append_ #[t, t] ty #[.slice (some ⟨g, 0, none⟩) 0 0, .slice ad m c]).run Try.prog W = .ok (.slice (some ⟨g', 0, none⟩) m c') W' ∧ W'.ownsRow B e size (.slice (some ⟨g', 0, none⟩) m c') m news ∧ B ≤ g' ∧ g' < W'.heap.size ∧ Below W.heap.size W W')
    (h : ∀ g' c' W', W'.ownsRow B e size (.slice (some ⟨g', 0, none⟩) m c') m news → B ≤ g' → g' < W'.heap.size → Below W.heap.size W W' → wpList Try.prog ops Q rest (a.put o.dst (.slice (some ⟨g', 0, none⟩) m c')) W') :
    wpList Try.prog ops Q (o :: rest) a W := by
  refine wpList_plain hgd fun K hK => ?_
  obtain ⟨g', c', W', h1, h2, h3, h4, h5⟩ := hr o.type
  unfold Oper.wp execOp
  simp only [ho, resolve, invoke, builtin, Sem.run_bind, Sem.run_pure, Result.andThen_ok, List.map_toArray, List.map_cons, List.map_nil, hs, hx, h1]
  exact hK _ _ (h g' c' W' h2 h3 h4 h5)
/-- The three kinds of lists. -/
theorem fresh_bytes (W : World) (B g : Nat) (a : Option Addr) (n c : Nat) (zs : List Int) (hn : zs.length = n) (hs : n ≤ 8000000) (hB : B ≤ g) (hown : W.ownsRow B 5 1 (.slice (some ⟨g, 0, none⟩) 0 0) 0 []) (hr : Rd W a zs) (ty : TypeId) :
    ∃ g' c' W', (Builtin.append_ #[22, 22] ty #[.slice (some ⟨g, 0, none⟩) 0 0, .slice a n c]).run Try.prog W = .ok (.slice (some ⟨g', 0, none⟩) n c') W' ∧ W'.ownsRow B 5 1 (.slice (some ⟨g', 0, none⟩) n c') n (zs.map (Value.int .u8)) ∧ B ≤ g' ∧ g' < W'.heap.size ∧ Below W.heap.size W W' := by
  obtain ⟨i0, hi, hz0, hz1, hz2⟩ := info_parts Try.info5
  refine run_fresh W B 22 ty 5 i0 (.int .u8 0) 1 1 Try.underlying22 hi hz0 hz1 hz2 rfl (by omega) g hB hown a n c (zs.map (Value.int .u8)) (by simp [hn]) ?_ (fun _ => by cases a with | none => exact .inl rfl | some ad => exact .inr ⟨ad, rfl⟩) (fun u hu => by obtain ⟨z, _, rfl⟩ := List.mem_map.1 hu; rfl) hs (by omega)
  rcases hr with rfl | ⟨b, off, rfl, hc⟩
  · exact .inl rfl
  · refine .inr ⟨_, rfl, fun j u hj => ?_⟩
    simp only [List.getElem?_map] at hj
    by_cases hjm : j < zs.length
    · have := hc j hjm
      rw [show (⟨b, off, none⟩ : Addr).add j = ⟨b, off + j, none⟩ by simp [Addr.add], this]
      rw [List.getElem?_eq_getElem hjm] at hj
      simpa [List.getElem?_eq_getElem hjm] using hj
    · rw [List.getElem?_eq_none (by omega)] at hj
      simp at hj
theorem fresh_pairs (W : World) (B g : Nat) (t e : TypeId) (i : TypeInfo) (z : Value) (bytes : Nat) (ht : Try.prog.underlying t = some (.slice e)) (hi : Try.prog.info? e = some i) (hz : i.zero = some z) (hsize : i.size = 2) (hby : i.bytes = bytes) (hzs : z.cells.size = 2) (hb64 : bytes ≤ 64) (a : Option Addr) (n c : Nat) (ps : List VP) (hn : ps.length = n) (hs : n ≤ 8000000) (hone : ∀ p ∈ ps, p.1.oneCell' = true ∧ p.2.oneCell' = true) (hB : B ≤ g) (hown : W.ownsRow B e 2 (.slice (some ⟨g, 0, none⟩) 0 0) 0 []) (hr : RdP W a ps) (ty : TypeId) :
    ∃ g' c' W', (Builtin.append_ #[t, t] ty #[.slice (some ⟨g, 0, none⟩) 0 0, .slice a n c]).run Try.prog W = .ok (.slice (some ⟨g', 0, none⟩) n c') W' ∧ W'.ownsRow B e 2 (.slice (some ⟨g', 0, none⟩) n c') n (pv ps) ∧ B ≤ g' ∧ g' < W'.heap.size ∧ Below W.heap.size W W' := by
  refine run_fresh W B t ty e i z 2 bytes ht hi hz hsize hby hzs (by omega) g hB hown a n c (pv ps) (by rw [pv_length, hn]) ?_ (fun _ => by cases a with | none => exact .inl rfl | some ad => exact .inr ⟨ad, rfl⟩) ?_ hs hb64
  · rcases hr with rfl | ⟨b, off, rfl, hc⟩
    · exact .inl rfl
    · refine .inr ⟨_, rfl, fun j u hj => ?_⟩
      have hjl : j < (pv ps).length := (List.getElem?_eq_some_iff.1 hj).1
      rw [pv_length] at hjl
      obtain ⟨p1, p2⟩ := pv_at ps (j / 2) (by omega)
      obtain ⟨q1, q2⟩ := hc (j / 2) (by omega)
      rw [show (⟨b, off, none⟩ : Addr).add j = ⟨b, off + j, none⟩ by simp [Addr.add]]
      rcases (show j = j / 2 * 2 ∨ j = j / 2 * 2 + 1 by omega) with e | e
      · rw [e] at hj ⊢
        rw [p1] at hj
        rw [q1]
        exact hj
      · rw [e] at hj ⊢
        rw [p2] at hj
        rw [← Nat.add_assoc, q2]
        exact hj
  · intro u hu
    unfold pv at hu
    obtain ⟨p, hp, hu⟩ := List.mem_flatMap.1 hu
    simp at hu
    rcases hu with rfl | rfl
    · exact (hone p hp).1
    · exact (hone p hp).2
theorem eP_one (es : List (ByteArray × Int)) : ∀ p ∈ eP es, p.1.oneCell' = true ∧ p.2.oneCell' = true := by
  intro p hp
  obtain ⟨e, _, rfl⟩ := List.mem_map.1 hp
  exact ⟨rfl, rfl⟩
theorem aP_one (es : List (ByteArray × ByteArray)) : ∀ p ∈ aP es, p.1.oneCell' = true ∧ p.2.oneCell' = true := by
  intro p hp
  obtain ⟨e, _, rfl⟩ := List.mem_map.1 hp
  exact ⟨rfl, rfl⟩
theorem empty_row (W : World) (B : Nat) (e : TypeId) (s : Nat) (hB : B ≤ W.heap.size) : (W.alloc (.cells #[] e)).ownsRow B e s (.slice (some ⟨W.heap.size, 0, none⟩) 0 0) 0 [] :=
  ⟨by simp, .inr ⟨W.heap.size, 0, #[], rfl, hB, heap_alloc_new W _, Nat.le_refl _, Nat.zero_le _, by simp, by simp⟩⟩


/-- What a copy of an inode is: the same data, in lists of the call's own. -/
def CopyPost (w : World) (D : InoD) (e : Ending) (w' : World) : Prop :=
  ∃ (b1 : Option Addr) (d1 : Nat) (b2 : Option Addr) (d2 : Nat) (b3 : Option Addr) (d3 : Nat), e = .returned (.agg #[.int .i64 D.ino, .int .i64 D.kind, .int .i64 D.links, .slice b1 D.data.length d1, .slice b2 D.ents.length d2, .slice b3 D.attrs.length d3]) ∧
    InoG w' w.heap.size w'.heap.size D (.slice b1 D.data.length d1) (.slice b2 D.ents.length d2) (.slice b3 D.attrs.length d3) ∧ Below w.heap.size w w'
/-- Three boxes and what has been copied so far, while an inode is copied. -/
structure CX (w W : World) (xs os : Array Value) : Prop where
  below : Below w.heap.size w W
  x : Blk W w.heap.size 27 xs
  res : Blk W (w.heap.size + 1) 27 #[.int .i64 0, .int .i64 0, .int .i64 0, .slice none 0 0, .slice none 0 0, .slice none 0 0]
  o : Blk W (w.heap.size + 1 + 1) 27 os
theorem CX.keep {w W W' : World} {xs os : Array Value} (h : CX w W xs os) (hb : Below W.heap.size W W') : CX w W' xs os := ⟨h.below.trans (hb.mono h.below.size), h.x.keep hb, h.res.keep hb, h.o.keep hb⟩
theorem CX.set {w W : World} {xs os : Array Value} (h : CX w W xs os) (j : Nat) (v : Value) : CX w (W.setCell ⟨w.heap.size + 1 + 1, j, none⟩ v) xs (os.setIfInBounds j v) :=
  ⟨h.below.setCell (p := ⟨w.heap.size + 1 + 1, j, none⟩) (by simp only; omega) v, h.x.other (by omega) j v, h.res.other (by omega) j v, h.o.set j v⟩

theorem raw_below {B : Nat} {e : TypeId} {w w' : World} {v : Value} {s n : Nat} {xs : List Value} (h : w.ownsRow B e s v n xs) (hb : Below w.heap.size w w') : w'.ownsRow B e s v n xs := by
  refine ⟨h.1, ?_⟩
  rcases h.2 with h' | ⟨g', cap', cur, h', hb', hgg, rest⟩
  · exact .inl h'
  · exact .inr ⟨g', cap', cur, h', hb', (hb.block g' (Array.getElem?_eq_some_iff.1 hgg).1).trans hgg, rest⟩
theorem row_zero' {B : Nat} {w : World} {e : TypeId} {s n : Nat} {v : Value} {xs : List Value} (h : w.ownsRow B e s v n xs) : w.ownsRow 0 e s v n xs := by
  refine ⟨h.1, ?_⟩
  rcases h.2 with h' | ⟨g, cap, cur, h', _, rest⟩
  · exact .inl h'
  · exact .inr ⟨g, cap, cur, h', Nat.zero_le _, rest⟩
theorem KpT.trans' {W W1 W' : World} {ts : List TypeId} (h : KpT W W1 ts) (k : KpT W1 W' ts) : KpT W W' ts := fun B cur t fr hB ht => by
  have e := h B cur t fr hB ht
  rw [k B cur t fr (e.trans hB) ht, e]
theorem KpT6 {W : World} {H : Nat} {xs : Array Value} (h : Blk W H 27 xs) (v0 v1 v2 v3 v4 v5 : Value) : KpT W ((((((W.setCell ⟨H, 0, none⟩ v0).setCell ⟨H, 1, none⟩ v1).setCell ⟨H, 2, none⟩ v2).setCell ⟨H, 3, none⟩ v3).setCell ⟨H, 4, none⟩ v4).setCell ⟨H, 5, none⟩ v5) [5, 35, 77] :=
  (((((KpT.grown (gr_setC _ H 0 v0) h (by decide)).trans' (KpT.grown (gr_setC _ H 1 v1) (h.set 0 v0) (by decide))).trans' (KpT.grown (gr_setC _ H 2 v2) ((h.set 0 v0).set 1 v1) (by decide))).trans' (KpT.grown (gr_setC _ H 3 v3) (((h.set 0 v0).set 1 v1).set 2 v2) (by decide))).trans' (KpT.grown (gr_setC _ H 4 v4) ((((h.set 0 v0).set 1 v1).set 2 v2).set 3 v3) (by decide))).trans' (KpT.grown (gr_setC _ H 5 v5) (((((h.set 0 v0).set 1 v1).set 2 v2).set 3 v3).set 4 v4) (by decide))

set_option maxRecDepth 100000 in
set_option maxHeartbeats 4000000 in
theorem l3Copy_any (D : InoD) (a1 a2 a3 : Option Addr) (c1 c2 c3 : Nat) (w : World) (hsm : InoSmall D) (hr : InoRd w D a1 a2 a3) :
    Calls Try.prog 74 #[.agg #[.int .i64 D.ino, .int .i64 D.kind, .int .i64 D.links, .slice a1 D.data.length c1, .slice a2 D.ents.length c2, .slice a3 D.attrs.length c3]] w fun e w' => CopyPost w D e w' := by
  obtain ⟨n1, h1⟩ : ∃ n, D.data.length = n := ⟨_, rfl⟩
  obtain ⟨n2, h2⟩ : ∃ n, D.ents.length = n := ⟨_, rfl⟩
  obtain ⟨n3, h3⟩ : ∃ n, D.attrs.length = n := ⟨_, rfl⟩
  have hp : Hid (∀ (e : Ending) (w' : World) (b1 : Option Addr) (d1 : Nat) (b2 : Option Addr) (d2 : Nat) (b3 : Option Addr) (d3 : Nat), e = .returned (.agg #[.int .i64 D.ino, .int .i64 D.kind, .int .i64 D.links, .slice b1 n1 d1, .slice b2 n2 d2, .slice b3 n3 d3]) → InoG w' w.heap.size w'.heap.size D (.slice b1 n1 d1) (.slice b2 n2 d2) (.slice b3 n3 d3) → Below w.heap.size w w' → CopyPost w D e w') := by
    intro e w' b1 d1 b2 d2 b3 d3 he hg hb
    refine ⟨b1, d1, b2, d2, b3, d3, ?_, ?_, hb⟩
    · rw [h1, h2, h3]; exact he
    · rw [h1, h2, h3]; exact hg
  obtain ⟨r1, rb, r2, r3⟩ := hr
  obtain ⟨s1, s2, s3, _, _⟩ := hsm
  rw [h1] at s1
  rw [h2] at s2
  rw [h3] at s3
  have H1 : Hid (D.data.length = n1 ∧ D.ents.length = n2 ∧ D.attrs.length = n3) := ⟨h1, h2, h3⟩
  rw [h1, h2, h3]
  generalize CopyPost w D = P at hp ⊢
  obtain ⟨i1, hi1⟩ : ∃ n, D.ino = n := ⟨_, rfl⟩
  obtain ⟨i2, hi2⟩ : ∃ n, D.kind = n := ⟨_, rfl⟩
  obtain ⟨i3, hi3⟩ : ∃ n, D.links = n := ⟨_, rfl⟩
  rw [hi1, hi2, hi3] at hp ⊢
  clear h1 h2 h3 hi1 hi2 hi3
  obtain ⟨ie, hie, ze0, ze1, ze2⟩ := info_parts Try.infoEnt
  obtain ⟨ia, hia, za0, za1, za2⟩ := info_parts Try.infoAttr
  have cx0 : CX w (((w.alloc (.cells #[.int .i64 i1, .int .i64 i2, .int .i64 i3, .slice a1 n1 c1, .slice a2 n2 c2, .slice a3 n3 c3] 27)).alloc (.cells #[.int .i64 0, .int .i64 0, .int .i64 0, .slice none 0 0, .slice none 0 0, .slice none 0 0] 27)).alloc (.cells #[.int .i64 i1, .int .i64 i2, .int .i64 i3, .slice a1 n1 c1, .slice a2 n2 c2, .slice a3 n3 c3] 27)) #[.int .i64 i1, .int .i64 i2, .int .i64 i3, .slice a1 n1 c1, .slice a2 n2 c2, .slice a3 n3 c3] #[.int .i64 i1, .int .i64 i2, .int .i64 i3, .slice a1 n1 c1, .slice a2 n2 c2, .slice a3 n3 c3] := by
    have hz1 : Blk (((w.alloc (.cells #[.int .i64 i1, .int .i64 i2, .int .i64 i3, .slice a1 n1 c1, .slice a2 n2 c2, .slice a3 n3 c3] 27)).alloc (.cells #[.int .i64 0, .int .i64 0, .int .i64 0, .slice none 0 0, .slice none 0 0, .slice none 0 0] 27)).alloc (.cells #[.int .i64 i1, .int .i64 i2, .int .i64 i3, .slice a1 n1 c1, .slice a2 n2 c2, .slice a3 n3 c3] 27)) w.heap.size 27 #[.int .i64 i1, .int .i64 i2, .int .i64 i3, .slice a1 n1 c1, .slice a2 n2 c2, .slice a3 n3 c3] := ((Blk.new w _ _).alloc _).alloc _
    have hz2 := (Blk.new (w.alloc (.cells #[.int .i64 i1, .int .i64 i2, .int .i64 i3, .slice a1 n1 c1, .slice a2 n2 c2, .slice a3 n3 c3] 27)) 27 #[.int .i64 0, .int .i64 0, .int .i64 0, .slice none 0 0, .slice none 0 0, .slice none 0 0]).alloc (.cells #[.int .i64 i1, .int .i64 i2, .int .i64 i3, .slice a1 n1 c1, .slice a2 n2 c2, .slice a3 n3 c3] 27)
    have hz3 := Blk.new ((w.alloc (.cells #[.int .i64 i1, .int .i64 i2, .int .i64 i3, .slice a1 n1 c1, .slice a2 n2 c2, .slice a3 n3 c3] 27)).alloc (.cells #[.int .i64 0, .int .i64 0, .int .i64 0, .slice none 0 0, .slice none 0 0, .slice none 0 0] 27)) 27 #[.int .i64 i1, .int .i64 i2, .int .i64 i3, .slice a1 n1 c1, .slice a2 n2 c2, .slice a3 n3 c3]
    simp only [World.size_alloc] at hz2 hz3
    exact ⟨(((Below.refl _ w).alloc (Nat.le_refl _) _).alloc (by simp) _).alloc (by simp; omega) _, hz1, hz2, hz3⟩
  go_enter Try.func74, Try.ntmps74
  go_upto_region 2 with fail
  obtain ⟨W0, hW0⟩ : ∃ W, ((w.alloc (.cells #[.int .i64 i1, .int .i64 i2, .int .i64 i3, .slice a1 n1 c1, .slice a2 n2 c2, .slice a3 n3 c3] 27)).alloc (.cells #[.int .i64 0, .int .i64 0, .int .i64 0, .slice none 0 0, .slice none 0 0, .slice none 0 0] 27)).alloc (.cells #[.int .i64 i1, .int .i64 i2, .int .i64 i3, .slice a1 n1 c1, .slice a2 n2 c2, .slice a3 n3 c3] 27) = W := ⟨_, rfl⟩
  rw [hW0] at cx0 ⊢
  clear hW0
  -- list 1
  have bE1 : Below W0.heap.size W0 (W0.alloc (.cells #[] 5)) := (Below.refl _ W0).alloc (Nat.le_refl _) _
  have cxE1 := cx0.keep bE1
  have hf1 := fun ty => fresh_bytes (W0.alloc (.cells #[] 5)) w.heap.size W0.heap.size a1 n1 c1 D.data H1.out.1 (by omega) cx0.below.size (empty_row W0 w.heap.size 5 1 cx0.below.size) (r1.keep cxE1.below) ty
  have x1 := cxE1.x.cell 3
  simp at x1
  have hsz1 := cx0.below.size
  go_upto_region 3 with (at_builtin; refine wpList_fresh (W0.alloc (.cells #[] 5)) rfl (.tmp 5) (.tmp 7) 22 rfl w.heap.size W0.heap.size a1 n1 c1 5 1 (D.data.map (Value.int .u8)) rfl rfl hf1 ?_; intro g1 d1 V1 o1 hB1 hl1 b1; have cxV1 := cxE1.keep b1; have y1 := cxV1.o.cell 3; have f1 := cxV1.o.frozen 3; simp at y1; clear x1)
  have cx1 : CX w (V1.setCell ⟨w.heap.size + 1 + 1, 3, none⟩ (.slice (some ⟨g1, 0, none⟩) n1 d1)) #[.int .i64 i1, .int .i64 i2, .int .i64 i3, .slice a1 n1 c1, .slice a2 n2 c2, .slice a3 n3 c3] #[.int .i64 i1, .int .i64 i2, .int .i64 i3, .slice (some ⟨g1, 0, none⟩) n1 d1, .slice a2 n2 c2, .slice a3 n3 c3] := cxV1.set 3 _
  have bb1 := bE1.trans (b1.mono bE1.size)
  have gs1 := gr_setC V1 (w.heap.size + 1 + 1) 3 (.slice (some ⟨g1, 0, none⟩) n1 d1)
  have hne1 : g1 ≠ w.heap.size + 1 + 1 := fun e => (by subst e; obtain ⟨_, cur, hc⟩ := row_at o1 (g := w.heap.size + 1 + 1) rfl; have := cxV1.o; rw [show V1.heap[w.heap.size + 1 + 1]? = _ from this] at hc; simp at hc)
  have q11 := row_kept o1 gs1 (fun m hm h => by simp [Value.ownBlock] at hm h; omega)
  obtain ⟨W1, hW1⟩ : ∃ W, V1.setCell ⟨w.heap.size + 1 + 1, 3, none⟩ (.slice (some ⟨g1, 0, none⟩) n1 d1) = W := ⟨_, rfl⟩
  rw [hW1] at cx1 q11 ⊢
  have hss1 := bb1.size
  clear hW1 cxV1 cxE1 bE1 y1 f1 hf1 o1 gs1 b1 bb1
  have bE2 : Below W1.heap.size W1 (W1.alloc (.cells #[] 35)) := (Below.refl _ W1).alloc (Nat.le_refl _) _
  have cxE2 := cx1.keep bE2
  have hf2 := fun ty => fresh_pairs (W1.alloc (.cells #[] 35)) w.heap.size W1.heap.size 24 35 ie _ 24 Try.underlying24 hie ze0 ze1 ze2 rfl (by omega) a2 n2 c2 (eP D.ents) (by rw [eP_length]; exact H1.out.2.1) (by omega) (eP_one _) cx1.below.size (empty_row W1 w.heap.size 35 2 cx1.below.size) (r2.keep cxE2.below) ty
  have x2 := cxE2.x.cell 4
  simp at x2
  have hsz2 := cx1.below.size
  go_upto_region 4 with (at_builtin; refine wpList_fresh (W1.alloc (.cells #[] 35)) rfl (.tmp 10) (.tmp 12) 24 rfl w.heap.size W1.heap.size a2 n2 c2 35 2 (pv (eP D.ents)) rfl rfl hf2 ?_; intro g2 d2 V2 o2 hB2 hl2 b2; have cxV2 := cxE2.keep b2; have y2 := cxV2.o.cell 4; have f2 := cxV2.o.frozen 4; simp at y2; clear x2)
  have cx2 : CX w (V2.setCell ⟨w.heap.size + 1 + 1, 4, none⟩ (.slice (some ⟨g2, 0, none⟩) n2 d2)) #[.int .i64 i1, .int .i64 i2, .int .i64 i3, .slice a1 n1 c1, .slice a2 n2 c2, .slice a3 n3 c3] #[.int .i64 i1, .int .i64 i2, .int .i64 i3, .slice (some ⟨g1, 0, none⟩) n1 d1, .slice (some ⟨g2, 0, none⟩) n2 d2, .slice a3 n3 c3] := cxV2.set 4 _
  have bb2 := bE2.trans (b2.mono bE2.size)
  have gs2 := gr_setC V2 (w.heap.size + 1 + 1) 4 (.slice (some ⟨g2, 0, none⟩) n2 d2)
  have hne2 : g2 ≠ w.heap.size + 1 + 1 := fun e => (by subst e; obtain ⟨_, cur, hc⟩ := row_at o2 (g := w.heap.size + 1 + 1) rfl; have := cxV2.o; rw [show V2.heap[w.heap.size + 1 + 1]? = _ from this] at hc; simp at hc)
  have q22 := row_kept o2 gs2 (fun m hm h => by simp [Value.ownBlock] at hm h; omega)
  have q12 := row_kept (raw_below q11 bb2) gs2 (fun m hm h => by simp [Value.ownBlock] at hm h; omega)
  obtain ⟨W2, hW2⟩ : ∃ W, V2.setCell ⟨w.heap.size + 1 + 1, 4, none⟩ (.slice (some ⟨g2, 0, none⟩) n2 d2) = W := ⟨_, rfl⟩
  rw [hW2] at cx2 q12 q22 ⊢
  have hss2 := bb2.size
  clear hW2 cxV2 cxE2 bE2 y2 f2 hf2 o2 gs2 b2 bb2
  have bE3 : Below W2.heap.size W2 (W2.alloc (.cells #[] 77)) := (Below.refl _ W2).alloc (Nat.le_refl _) _
  have cxE3 := cx2.keep bE3
  have hf3 := fun ty => fresh_pairs (W2.alloc (.cells #[] 77)) w.heap.size W2.heap.size 25 77 ia _ 32 Try.underlying25 hia za0 za1 za2 rfl (by omega) a3 n3 c3 (aP D.attrs) (by rw [aP_length]; exact H1.out.2.2) (by omega) (aP_one _) cx2.below.size (empty_row W2 w.heap.size 77 2 cx2.below.size) (r3.keep cxE3.below) ty
  have x3 := cxE3.x.cell 5
  simp at x3
  have hsz3 := cx2.below.size
  go_upto_region 5 with (at_builtin; refine wpList_fresh (W2.alloc (.cells #[] 77)) rfl (.tmp 15) (.tmp 17) 25 rfl w.heap.size W2.heap.size a3 n3 c3 77 2 (pv (aP D.attrs)) rfl rfl hf3 ?_; intro g3 d3 V3 o3 hB3 hl3 b3; have cxV3 := cxE3.keep b3; have y3 := cxV3.o.cell 5; have f3 := cxV3.o.frozen 5; simp at y3; clear x3)
  have cx3 : CX w (V3.setCell ⟨w.heap.size + 1 + 1, 5, none⟩ (.slice (some ⟨g3, 0, none⟩) n3 d3)) #[.int .i64 i1, .int .i64 i2, .int .i64 i3, .slice a1 n1 c1, .slice a2 n2 c2, .slice a3 n3 c3] #[.int .i64 i1, .int .i64 i2, .int .i64 i3, .slice (some ⟨g1, 0, none⟩) n1 d1, .slice (some ⟨g2, 0, none⟩) n2 d2, .slice (some ⟨g3, 0, none⟩) n3 d3] := cxV3.set 5 _
  have bb3 := bE3.trans (b3.mono bE3.size)
  have gs3 := gr_setC V3 (w.heap.size + 1 + 1) 5 (.slice (some ⟨g3, 0, none⟩) n3 d3)
  have hne3 : g3 ≠ w.heap.size + 1 + 1 := fun e => (by subst e; obtain ⟨_, cur, hc⟩ := row_at o3 (g := w.heap.size + 1 + 1) rfl; have := cxV3.o; rw [show V3.heap[w.heap.size + 1 + 1]? = _ from this] at hc; simp at hc)
  have q33 := row_kept o3 gs3 (fun m hm h => by simp [Value.ownBlock] at hm h; omega)
  have q13 := row_kept (raw_below q12 bb3) gs3 (fun m hm h => by simp [Value.ownBlock] at hm h; omega)
  have q23 := row_kept (raw_below q22 bb3) gs3 (fun m hm h => by simp [Value.ownBlock] at hm h; omega)
  obtain ⟨W3, hW3⟩ : ∃ W, V3.setCell ⟨w.heap.size + 1 + 1, 5, none⟩ (.slice (some ⟨g3, 0, none⟩) n3 d3) = W := ⟨_, rfl⟩
  rw [hW3] at cx3 q13 q23 q33 ⊢
  have hss3 := bb3.size
  clear hW3 cxV3 cxE3 bE3 y3 f3 hf3 o3 gs3 b3 bb3
  obtain ⟨x0, x1, x2, x3, x4, x5⟩ := cx3.o.six
  obtain ⟨t0, t1, t2, t3, t4, t5⟩ := cx3.res.six
  have fz0 := cx3.res.frozen 0
  have fz1 := cx3.res.frozen 1
  have fz2 := cx3.res.frozen 2
  have fz3 := cx3.res.frozen 3
  have fz4 := cx3.res.frozen 4
  have fz5 := cx3.res.frozen 5
  have HG : Hid _ := cx3
  have HQ : Hid _ := And.intro q13 (And.intro q23 q33)
  have hl33 : g1 < W3.heap.size ∧ g2 < W3.heap.size ∧ g3 < W3.heap.size := ⟨(World.ownsRow.lt q13 g1 rfl).2, (World.ownsRow.lt q23 g2 rfl).2, (World.ownsRow.lt q33 g3 rfl).2⟩
  clear cx0 cx1 cx2 cx3 q11 q12 q22 q13 q23 q33 hie ze0 ze1 ze2 hia za0 za1 za2 r1 r2 r3
  go_wp2
  have zf := (((((HG.out.res.set 0 (.int .i64 i1)).set 1 (.int .i64 i2)).set 2 (.int .i64 i3)).set 3 (.slice (some ⟨g1, 0, none⟩) n1 d1)).set 4 (.slice (some ⟨g2, 0, none⟩) n2 d2)).set 5 (.slice (some ⟨g3, 0, none⟩) n3 d3)
  have dd0 := zf.cell 0
  have dd1 := zf.cell 1
  have dd2 := zf.cell 2
  have dd3 := zf.cell 3
  have dd4 := zf.cell 4
  have dd5 := zf.cell 5
  simp at dd0 dd1 dd2 dd3 dd4 dd5
  refine bodyPost_ret (v := .agg #[.int .i64 i1, .int .i64 i2, .int .i64 i3, .slice (some ⟨g1, 0, none⟩) n1 d1, .slice (some ⟨g2, 0, none⟩) n2 d2, .slice (some ⟨g3, 0, none⟩) n3 d3]) (by simp [results, Try.f74, go_sem, dd0, dd1, dd2, dd3, dd4, dd5]) rfl ?_
  have kF := KpT6 HG.out.res (.int .i64 i1) (.int .i64 i2) (.int .i64 i3) (.slice (some ⟨g1, 0, none⟩) n1 d1) (.slice (some ⟨g2, 0, none⟩) n2 d2) (.slice (some ⟨g3, 0, none⟩) n3 d3)
  have u1 := row_kp HQ.out.1 kF (by decide)
  have u2 := row_kp HQ.out.2.1 kF (by decide)
  have u3 := row_kp HQ.out.2.2 kF (by decide)
  refine hp.out _ _ _ _ _ _ _ _ rfl ⟨by rw [H1.out.1]; exact OwnV.rowB (B := w.heap.size) u1, rb, by rw [H1.out.2.1]; exact row_zero' u2, by rw [H1.out.2.2]; exact row_zero' u3, ?_⟩ ?_
  · intro m hm
    simp [Value.ownBlock] at hm
    simp only [World.setCell, Array.size_modify]
    omega
  · exact ((((((HG.out.below.setCell (p := ⟨w.heap.size + 1, 0, none⟩) (by simp only; omega) _).setCell (p := ⟨w.heap.size + 1, 1, none⟩) (by simp only; omega) _).setCell (p := ⟨w.heap.size + 1, 2, none⟩) (by simp only; omega) _).setCell (p := ⟨w.heap.size + 1, 3, none⟩) (by simp only; omega) _).setCell (p := ⟨w.heap.size + 1, 4, none⟩) (by simp only; omega) _).setCell (p := ⟨w.heap.size + 1, 5, none⟩) (by simp only; omega) _)


set_option maxHeartbeats 4000000 in
theorem sameS (D E : InoD) (a1 a2 a3 b1 b2 b3 : Option Addr) (c1 c2 c3 d1 d2 d3 : Nat) (w : World) (hD : InoSmall D) (hE : InoSmall E) (hr : InoRd w D a1 a2 a3) (hr' : InoRd w E b1 b2 b3) :
    Calls Try.prog 25 #[inoV D a1 c1 a2 c2 a3 c3, inoV E b1 d1 b2 d2 b3 d3] w fun e w' => e = .returned (.bool (sameOf D E)) ∧ Below w.heap.size w w' := by
  obtain ⟨W0, hW0, B0, z0, y0⟩ := two_boxes w D E a1 a2 a3 b1 b2 b3 c1 c2 c3 d1 d2 d3
  have HW0 : Hid _ := hW0
  have i1 := hD.data
  have i2 := hD.ents
  have i3 := hD.attrs
  have j1 := hE.data
  have j2 := hE.ents
  have j3 := hE.attrs
  clear hW0
  unfold inoV
  cases h1 : (D.ino == E.ino) with
  | false =>
    have h1n : (D.ino != E.ino) = true := by simp only [bne, h1]; rfl
    have hf : Hid (sameOf D E = false) := by show _ = _; unfold sameOf; rw [h1]; rfl
    go_enter Try.func25, Try.ntmps25
    go_wp2
    go_ret
    exact ⟨ret_bool hf.out.symm, by rw [HW0.out]; exact B0⟩
  | true =>
  have h1n : (D.ino != E.ino) = false := by simp only [bne, h1]; rfl
  cases h2 : (D.kind == E.kind) with
  | false =>
    have h2n : (D.kind != E.kind) = true := by simp only [bne, h2]; rfl
    have hf : Hid (sameOf D E = false) := by show _ = _; unfold sameOf; rw [h1, h2]; rfl
    go_enter Try.func25, Try.ntmps25
    go_wp2
    go_ret
    exact ⟨ret_bool hf.out.symm, by rw [HW0.out]; exact B0⟩
  | true =>
  have h2n : (D.kind != E.kind) = false := by simp only [bne, h2]; rfl
  cases h3 : (D.links == E.links) with
  | false =>
    have h3n : (D.links != E.links) = true := by simp only [bne, h3]; rfl
    have hf : Hid (sameOf D E = false) := by show _ = _; unfold sameOf; rw [h1, h2, h3]; rfl
    go_enter Try.func25, Try.ntmps25
    go_wp2
    go_ret
    exact ⟨ret_bool hf.out.symm, by rw [HW0.out]; exact B0⟩
  | true =>
  have h3n : (D.links != E.links) = false := by simp only [bne, h3]; rfl
  have hf : Hid (sameOf D E = (decide (D.data = E.data) && (decide (D.ents = E.ents) && decide (D.attrs = E.attrs)))) := by show _ = _; unfold sameOf; rw [h1, h2, h3]; rfl
  go_enter Try.func25, Try.ntmps25
  go_wp2_with fail
  rw [HW0.out]
  refine (sameB_any a1 b1 _ _ c1 d1 D.data E.data W0 rfl rfl (by omega) (by omega) (hr.data.keep B0) (hr'.data.keep B0)).mono ?_
  rintro e w1 ⟨rfl, hdr⟩
  have t1 : Below W0.heap.size W0 w1 := drewN_below hdr
  have B1 := B0.trans (t1.mono B0.size)
  have z1 := z0.keep t1
  have y1 := y0.keep t1
  obtain ⟨q0, q1, q2, q3, q4, q5⟩ := z1.six
  obtain ⟨p0, p1, p2, p3, p4, p5⟩ := y1.six
  clear hdr t1
  cases h4 : decide (D.data = E.data) with
  | false =>
    go_wp2
    go_ret
    exact ⟨ret_bool (by rw [hf.out, h4]; rfl), B1⟩
  | true =>
  by_cases hne : D.ents.length ≠ E.ents.length
  · have hne' : ((D.ents.length : Int) == (E.ents.length : Int)) = false := by simp; omega
    have hfin : Hid (sameOf D E = false) := by show _ = _; rw [hf.out, decide_eq_false (fun e => hne (by rw [e]) : ¬ D.ents = E.ents)]; simp
    have hne2 : ((D.ents.length : Int) != (E.ents.length : Int)) = true := by simp; omega
    clear hne
    go_wp2
    go_ret
    exact ⟨ret_bool hfin.out.symm, B1⟩
  have hne : D.ents.length = E.ents.length := Decidable.not_not.1 hne
  have hne' : ((D.ents.length : Int) == (E.ents.length : Int)) = true := by simp [hne]
  have hne2 : ((D.ents.length : Int) != (E.ents.length : Int)) = false := by simp [hne]
  by_cases hna : D.attrs.length ≠ E.attrs.length
  · have hna' : ((D.attrs.length : Int) == (E.attrs.length : Int)) = false := by simp; omega
    have hfin : Hid (sameOf D E = false) := by show _ = _; rw [hf.out, decide_eq_false (fun e => hna (by rw [e]) : ¬ D.attrs = E.attrs)]; simp
    have hna2 : ((D.attrs.length : Int) != (E.attrs.length : Int)) = true := by simp; omega
    have HNE : Hid (D.ents.length = E.ents.length) := hne
    clear hna hne
    go_wp2
    go_ret
    exact ⟨ret_bool hfin.out.symm, B1⟩
  have hna : D.attrs.length = E.attrs.length := Decidable.not_not.1 hna
  have hna' : ((D.attrs.length : Int) == (E.attrs.length : Int)) = true := by simp [hna]
  have hna2 : ((D.attrs.length : Int) != (E.attrs.length : Int)) = false := by simp [hna]
  have hf2 : Hid (sameOf D E = (decide (D.ents = E.ents) && decide (D.attrs = E.attrs))) := by show _ = _; rw [hf.out, h4]; rfl
  have HNE : Hid (D.ents.length = E.ents.length) := hne
  have HNA : Hid (D.attrs.length = E.attrs.length) := hna
  have HRE : Hid (RdP w1 a2 (eP D.ents) ∧ RdP w1 b2 (eP E.ents)) := ⟨hr.ents.keep B1, hr'.ents.keep B1⟩
  have HRA : Hid (RdP w1 a3 (aP D.attrs) ∧ RdP w1 b3 (aP E.attrs)) := ⟨hr.attrs.keep B1, hr'.attrs.keep B1⟩
  obtain ⟨n2, hn2⟩ : ∃ n, D.ents.length = n := ⟨_, rfl⟩
  obtain ⟨n3, hn3⟩ : ∃ n, D.attrs.length = n := ⟨_, rfl⟩
  obtain ⟨m2, hm2⟩ : ∃ n, E.ents.length = n := ⟨_, rfl⟩
  obtain ⟨m3, hm3⟩ : ∃ n, E.attrs.length = n := ⟨_, rfl⟩
  obtain ⟨L1, hL1⟩ : ∃ n, D.data.length = n := ⟨_, rfl⟩
  obtain ⟨M1, hM1⟩ : ∃ n, E.data.length = n := ⟨_, rfl⟩
  have K2 : Hid (D.ents.length = n2) := hn2
  have K3 : Hid (D.attrs.length = n3) := hn3
  have K2' : Hid (E.ents.length = n2) := by show _ = _; rw [← HNE.out]; exact hn2
  have K3' : Hid (E.attrs.length = n3) := by show _ = _; rw [← HNA.out]; exact hn3
  have hmn2 : m2 = n2 := by rw [← hm2]; exact K2'.out
  have hmn3 : m3 = n3 := by rw [← hm3]; exact K3'.out
  rw [hn2] at q4 hne' hne2 i2
  rw [hn3] at q5 hna' hna2 i3
  rw [hm2] at p4 hne' hne2
  rw [hm3] at p5 hna' hna2
  rw [hL1] at q3
  rw [hM1] at p3
  rw [hn2, hn3, hm2, hm3, hL1, hM1]
  subst hmn2 hmn3
  clear hn2 hn3 hm2 hm3 hL1 hM1 hne hna z0 y0 z1 y1 hr hr' hD hE hf i1 j1 j2 j3 HNE HNA
  have i2' : (m2 : Int) ≤ 1048576 := by omega
  have i3' : (m3 : Int) ≤ 1048576 := by omega
  go_wp2
  go_loopw [5] (fun i wr => ∃ k d : Nat, k ≤ m2 ∧ i = .int .i64 k ∧ wr = w1.drewN d ∧ Hid (∀ j, (h : j < D.ents.length) → (h' : j < E.ents.length) → j < k → D.ents[j] = E.ents[j])) (fun i _ => m2 - (intOf i).toNat)
  case atStart => exact ⟨0, 0, Nat.zero_le _, rfl, rfl, fun j _ _ hj => by omega⟩
  case round =>
    obtain ⟨k, d, hk, rfl, hwr0, hall⟩ := hrel
    have hwr : Hid (wr = w1.drewN d) := hwr0
    have hcells : ∀ p, wr.cell? p = w1.cell? p := fun p => by rw [hwr0]; rfl
    clear hwr0
    have q4' := q4
    have q5' := q5
    have p4' := p4
    have p5' := p5
    rw [← hcells] at q4' q5' p4' p5'
    by_cases hkn : k < m2
    · have hkl : k < D.ents.length := by rw [K2.out]; exact hkn
      have hkl' : k < E.ents.length := by rw [K2'.out]; exact hkn
      have hki : (k : Int) < (m2 : Int) := by omega
      obtain ⟨b, off, rfl, hlt, hc⟩ := RdP.lt HRE.out.1 (by intro h; have := congrArg List.length h; rw [eP_length] at this; simp at this; rw [this] at hkl; simp at hkl)
      obtain ⟨b', off', rfl, hlt', hc'⟩ := RdP.lt HRE.out.2 (by intro h; have := congrArg List.length h; rw [eP_length] at this; simp at this; rw [this] at hkl'; simp at hkl')
      have hx := hc k (by rw [eP_length]; exact hkl)
      have hy := hc' k (by rw [eP_length]; exact hkl')
      rw [eP_at _ k hkl] at hx
      rw [eP_at _ k hkl'] at hy
      clear hc hc'
      have hpe := pairE_eq D.ents[k] E.ents[k]
      have hyes : D.ents[k] = E.ents[k] → ∀ j, (h : j < D.ents.length) → (h' : j < E.ents.length) → j < k + 1 → D.ents[j] = E.ents[j] := by
        intro e j h h' hj
        rcases (show j < k ∨ j = k by omega) with hj | rfl
        · exact hall.out j h h' hj
        · exact e
      have hno : D.ents[k] ≠ E.ents[k] → sameOf D E = false := fun e => by
        rw [hf2.out, decide_eq_false (fun e' => e (getElem_congr_coll e') : ¬ D.ents = E.ents)]
        rfl
      obtain ⟨z, hz⟩ : ∃ z, D.ents[k].1 = z := ⟨_, rfl⟩
      obtain ⟨u, hu⟩ : ∃ u, D.ents[k].2 = u := ⟨_, rfl⟩
      obtain ⟨z', hz'⟩ : ∃ z, E.ents[k].1 = z := ⟨_, rfl⟩
      obtain ⟨u', hu'⟩ : ∃ u, E.ents[k].2 = u := ⟨_, rfl⟩
      rw [hz, hu] at hx
      rw [hz', hu'] at hy
      rw [hz, hz', hu, hu'] at hpe
      obtain ⟨x1, x2⟩ := hx
      obtain ⟨y1, y2⟩ := hy
      dsimp only at x1 x2 y1 y2
      rw [← hcells] at x1 x2 y1 y2
      have hneq := neqEnt z z' u u'
      have hgd := guardEnt .neq
      rw [hpe] at hneq
      by_cases heq : D.ents[k] = E.ents[k]
      · rw [decide_eq_true heq] at hneq
        have hnx : Hid _ := hyes heq
        clear hno hyes hpe hz hz' hu hu' heq hcells hall hkl hkl'
        go_wp2
        go_quiet (fail)
        go_wp2
        go_roundw
        case rel => exact ⟨k + 1, d + nq, by omega, by go_num, by rw [hwr.out, World.drewN_drewN], hnx⟩
        case measure => simp [intOf]; omega
      · rw [decide_eq_false heq] at hneq
        have hfin : Hid _ := hno heq
        clear hno hyes hpe hz hz' hu hu' heq hcells hall hkl hkl'
        go_wp2
        go_quiet (fail)
        go_wp2
        go_ret
        exact ⟨ret_bool hfin.out.symm, by rw [hwr.out, World.drewN_drewN]; exact below_drewN B1 _⟩
    · have hki : ¬ (k : Int) < (m2 : Int) := by omega
      have heq : decide (D.ents = E.ents) = true := decide_eq_true (List.ext_getElem (by rw [K2.out, K2'.out]) (fun j h h' => hall.out j h h' (by rw [K2.out] at h; omega)))
      clear hcells hall
      have hf3 : Hid (sameOf D E = decide (D.attrs = E.attrs)) := by show _ = _; rw [hf2.out, heq]; rfl
      clear heq
      go_wp2
      clear q4' q5' p4' p5' hki hk
      go_loopw [6] (fun i wr => ∃ k d : Nat, k ≤ m3 ∧ i = .int .i64 k ∧ wr = w1.drewN d ∧ Hid (∀ j, (h : j < D.attrs.length) → (h' : j < E.attrs.length) → j < k → D.attrs[j] = E.attrs[j])) (fun i _ => m3 - (intOf i).toNat)
      case atStart => exact ⟨0, d, Nat.zero_le _, rfl, hwr.out, fun j _ _ hj => by omega⟩
      case round =>
        obtain ⟨k, d, hk, rfl, hwr0, hall⟩ := hrel
        have hwr : Hid (wr = w1.drewN d) := hwr0
        have hcells : ∀ p, wr.cell? p = w1.cell? p := fun p => by rw [hwr0]; rfl
        clear hwr0
        have q4' := q4
        have q5' := q5
        have p4' := p4
        have p5' := p5
        rw [← hcells] at q4' q5' p4' p5'
        by_cases hkn : k < m3
        · have hkl : k < D.attrs.length := by rw [K3.out]; exact hkn
          have hkl' : k < E.attrs.length := by rw [K3'.out]; exact hkn
          have hki : (k : Int) < (m3 : Int) := by omega
          obtain ⟨b, off, rfl, hlt, hc⟩ := RdP.lt HRA.out.1 (by intro h; have := congrArg List.length h; rw [aP_length] at this; simp at this; rw [this] at hkl; simp at hkl)
          obtain ⟨b', off', rfl, hlt', hc'⟩ := RdP.lt HRA.out.2 (by intro h; have := congrArg List.length h; rw [aP_length] at this; simp at this; rw [this] at hkl'; simp at hkl')
          have hx := hc k (by rw [aP_length]; exact hkl)
          have hy := hc' k (by rw [aP_length]; exact hkl')
          rw [aP_at _ k hkl] at hx
          rw [aP_at _ k hkl'] at hy
          clear hc hc'
          have hpe := pairA_eq D.attrs[k] E.attrs[k]
          have hyes : D.attrs[k] = E.attrs[k] → ∀ j, (h : j < D.attrs.length) → (h' : j < E.attrs.length) → j < k + 1 → D.attrs[j] = E.attrs[j] := by
            intro e j h h' hj
            rcases (show j < k ∨ j = k by omega) with hj | rfl
            · exact hall.out j h h' hj
            · exact e
          have hno : D.attrs[k] ≠ E.attrs[k] → sameOf D E = false := fun e => by
            rw [hf3.out, decide_eq_false (fun e' => e (getElem_congr_coll e') : ¬ D.attrs = E.attrs)]

          obtain ⟨z, hz⟩ : ∃ z, D.attrs[k].1 = z := ⟨_, rfl⟩
          obtain ⟨u, hu⟩ : ∃ u, D.attrs[k].2 = u := ⟨_, rfl⟩
          obtain ⟨z', hz'⟩ : ∃ z, E.attrs[k].1 = z := ⟨_, rfl⟩
          obtain ⟨u', hu'⟩ : ∃ u, E.attrs[k].2 = u := ⟨_, rfl⟩
          rw [hz, hu] at hx
          rw [hz', hu'] at hy
          rw [hz, hz', hu, hu'] at hpe
          obtain ⟨x1, x2⟩ := hx
          obtain ⟨y1, y2⟩ := hy
          dsimp only at x1 x2 y1 y2
          rw [← hcells] at x1 x2 y1 y2
          have hneq := neqAttr z z' u u'
          have hgd := guardAttr .neq
          rw [hpe] at hneq
          by_cases heq : D.attrs[k] = E.attrs[k]
          · rw [decide_eq_true heq] at hneq
            have hnx : Hid _ := hyes heq
            clear hno hyes hpe hz hz' hu hu' heq hcells hall hkl hkl'
            go_wp2
            go_quiet (fail)
            go_wp2
            go_roundw
            case rel => exact ⟨k + 1, d + nq, by omega, by go_num, by rw [hwr.out, World.drewN_drewN], hnx⟩
            case measure => simp [intOf]; omega
          · rw [decide_eq_false heq] at hneq
            have hfin : Hid _ := hno heq
            clear hno hyes hpe hz hz' hu hu' heq hcells hall hkl hkl'
            go_wp2
            go_quiet (fail)
            go_wp2
            go_ret
            exact ⟨ret_bool hfin.out.symm, by rw [hwr.out, World.drewN_drewN]; exact below_drewN B1 _⟩
        · have hki : ¬ (k : Int) < (m3 : Int) := by omega
          have heq : decide (D.attrs = E.attrs) = true := decide_eq_true (List.ext_getElem (by rw [K3.out, K3'.out]) (fun j h h' => hall.out j h h' (by rw [K3.out] at h; omega)))
          clear hcells hall
          have hfin : Hid (sameOf D E = true) := by show _ = _; rw [hf3.out]; exact heq
          go_wp2
          go_ret
          exact ⟨ret_bool hfin.out.symm, by rw [hwr.out]; exact below_drewN B1 _⟩


/-- What DrawGetInode draws: bytes in a row of their own. -/
def DrawnB (w : World) (e : Ending) (w' : World) : Prop :=
  ∃ (g m c : Nat) (ys : List Int), e = .returned (.slice (some ⟨g, 0, none⟩) m c) ∧ Own w' g m c ys ∧ Byt ys ∧ m ≤ 1000 ∧ Below w.heap.size w w'
theorem own_cut {w : World} {g n c k : Nat} {ys : List Int} (h : Own w g n c ys) (hk : k ≤ n) : Own w g k c (ys.take k) := by
  have hl : ys.length = n := by have := h.1; simpa using this
  refine ⟨by simp; omega, ?_⟩
  rcases h.2 with ⟨h', _⟩ | ⟨g', c', cur, h', hb, h3, h4, h5, h6, h7⟩
  · simp at h'
  · simp at h'
    obtain ⟨rfl, rfl⟩ := h'
    refine .inr ⟨g, c, cur, rfl, hb, h3, by omega, h5, h6, ?_⟩
    have h8 := congrArg (List.take k) h7
    rw [List.take_take, Nat.min_eq_left (by omega)] at h8
    rw [Nat.mul_one, h8, List.map_take]
theorem own_cell {w : World} {g n c k : Nat} {ys : List Int} (h : Own w g n c ys) (hk : k < n) : w.cell? ⟨g, k, none⟩ = some (.int .u8 (ys.getD k 0)) := by
  have hl := h.len
  have := World.ownsRow.cellAt h k (by omega)
  rw [this]
  simp [List.getD_eq_getElem?_getD, show k < ys.length by omega]
theorem five_byte (k : Nat) (h : k < 5) : ∃ m : Nat, ([0, 1, 2, 97, 128] : List Int).getD k 0 = (m : Int) ∧ m ≤ 255 := by
  rcases (show k = 0 ∨ k = 1 ∨ k = 2 ∨ k = 3 ∨ k = 4 by omega) with rfl | rfl | rfl | rfl | rfl
  · exact ⟨0, rfl, by omega⟩
  · exact ⟨1, rfl, by omega⟩
  · exact ⟨2, rfl, by omega⟩
  · exact ⟨97, rfl, by omega⟩
  · exact ⟨128, rfl, by omega⟩
theorem inoEnc_pos (D : InoD) : 1 ≤ (inoEnc D).length := by
  unfold inoEnc encH encs
  simp only [List.length_append, List.flatMap_cons]
  have : 1 ≤ (enc D.ino).length := by
    unfold enc
    by_cases h : 128 ≤ clamp D.ino
    · rw [encGo_more h]; simp
    · rw [encGo_last h]; simp
  omega
theorem byt_set {ys : List Int} (h : Byt ys) (k m : Nat) (hm : m ≤ 255) : Byt (ys.set k (m : Int)) := by
  intro z hz
  rcases List.mem_or_eq_of_mem_set hz with h1 | rfl
  · exact h z h1
  · omega
theorem DrM.small {D : InoD} (h : DrM D) : InoSmall D :=
  ⟨by have := h.data; omega, by have := h.nE; omega, by have := h.nA; omega, fun q hq => by have := (h.ents q hq).1; omega, fun q hq => by have := h.attrs q hq; omega⟩

set_option maxRecDepth 100000 in
set_option maxHeartbeats 4000000 in
theorem drawGetInode_any (a : Option Addr) (n cap : Nat) (zs : List Int) (w : World) (hn : zs.length = n) (hs : n ≤ 1048576) (hr : Rd w a zs) (hb : Byt zs) :
    Calls Try.prog 21 #[.slice a n cap] w fun e w' => DrawnB w e w' := by
  go_enter Try.func21, Try.ntmps21
  go_wp2_with fail
  refine (new_step a n cap zs w hn hs hr hb).mono ?_
  rintro e w1 ⟨rfl, s1, b1⟩
  have hgc := s1.cur.lt
  clear hn hr hb
  go_wp2_with fail
  (with_reducible refine (l3Draw_any _ n cap a zs w1 s1).mono ?_)
  rintro e w2 ⟨D, v1, v2, v3, rfl, lb, hD, s2, g2⟩
  obtain ⟨a1, c1, rfl⟩ := val_shape lb.d
  obtain ⟨a2, c2, rfl⟩ := val_shape lb.e
  obtain ⟨a3, c3, rfl⟩ := val_shape lb.t
  have hM := drm hD
  have B2 : Below w.heap.size w w2 := b1.grown g2 b1.size (fun m hm => by simp at hm; omega)
  have hcP := putS_yes D a1 a2 a3 c1 c2 c3 w2 hM.small lb.rd hD.1
  unfold inoV at hcP
  have hlen := inoEnc_len (inoOk_fit hD.1)
  have hpos := inoEnc_pos D
  have hbe := inoEnc_byt D
  generalize inoEnc D = es at hcP hlen hpos hbe
  obtain ⟨m, hm⟩ : ∃ m, es.length = m := ⟨_, rfl⟩
  rw [hm] at hcP hlen hpos
  have HM : Hid _ := hm
  have hs2 := g2.size
  clear hm s1 b1 g2 hD hM
  go_wp2_with fail
  (with_reducible refine hcP.mono ?_)
  rintro e w3 ⟨g, c, rfl, hg, ob, b3⟩
  have s3 := s2.keep b3
  have B3 := B2.trans (b3.mono B2.size)
  have hgn : w.heap.size < g := by omega
  clear hcP lb s2 b3
  go_wp2_with fail
  refine (below_step _ n cap a zs 5 w3 s3 (by omega) (by omega)).mono ?_
  rintro e w4 ⟨x, rfl, hx, s4, g4⟩
  have ob4 : Own w4 g m c es := ob.kept g4 (by omega)
  have B4 : Below w.heap.size w w4 := B3.grown g4 B3.size (fun m hm => by simp at hm; omega)
  clear s3 g4 ob B3
  by_cases h0 : x = 0
  · subst h0
    rw [show ((0 : Nat) : Int) = 0 from rfl]
    go_upto_region 5 with fail
    go_wp2_with fail
    refine (below_step _ n cap a zs m w4 s4 hpos (by omega)).mono ?_
    rintro e w5 ⟨k, rfl, hk, s5, g5⟩
    have ob5 : Own w5 g m c es := ob4.kept g5 (by omega)
    have B5 : Below w.heap.size w w5 := B4.grown g5 B4.size (fun m hm => by simp at hm; omega)
    have hw5 := s5.cur.lt
    have hcI := int_step w.heap.size n cap a zs w5.heap.size 5 [0, 1, 2, 97, 128] _ (s5.alloc (.cells #[.int .i64 0, .int .i64 1, .int .i64 2, .int .i64 97, .int .i64 128] 3)) rfl (by omega) (by omega) (by omega) (fun j hj => ints_cells w5 [0, 1, 2, 97, 128] 3 j hj)
    go_wp2_with fail
    (with_reducible refine hcI.mono ?_)
    rintro e w6 ⟨k6, rfl, hk6, s6, g6⟩
    obtain ⟨v6, hv6, hv6b⟩ := five_byte k6 hk6
    rw [hv6]
    have ob6 : Own w6 g m c es := Own.kept (World.ownsRow.alloc ob5 (.cells #[.int .i64 0, .int .i64 1, .int .i64 2, .int .i64 97, .int .i64 128] 3)) g6 (by omega)
    have B6 : Below w.heap.size w w6 := (B5.alloc B5.size (.cells #[.int .i64 0, .int .i64 1, .int .i64 2, .int .i64 97, .int .i64 128] 3)).grown g6 (by simp; have := B5.size; omega) (fun m hm => by simp at hm; omega)
    have hkm : (k : Int) < (m : Int) := by omega
    have hk0 : (0 : Int) ≤ (k : Int) := by omega
    have cg : w6.cell? ⟨g, k, none⟩ = some (.int .u8 (es.getD k 0)) := own_cell ob6 hk
    have fg := World.ownsRow.frozenAt ob6 k
    have hwv : IntKind.u8.wrap (v6 : Int) = (v6 : Int) := by rw [IntKind.wrap_u8]; omega
    have hst := (World.ownsRow.stored ob6 k (.int .u8 (v6 : Int))).1
    rw [← List.map_set] at hst
    have HST : Hid _ := hst
    clear hcI s5 s6 g5 g6 hv6 hst
    go_wp2
    go_ret
    refine ⟨g, m, c, es.set k (v6 : Int), rfl, HST.out, byt_set hbe k v6 hv6b, by omega, B6.setCell (p := ⟨g, k, none⟩) (by simp only; omega) _⟩
  have n0 : ((x : Int) == 0) = false := by simp; omega
  by_cases h1 : x = 1
  · subst h1
    rw [show ((1 : Nat) : Int) = 1 from rfl]
    go_upto_region 7 with fail
    go_wp2_with fail
    refine (below_step _ n cap a zs m w4 s4 hpos (by omega)).mono ?_
    rintro e w5 ⟨k, rfl, hk, s5, g5⟩
    have ob5 : Own w5 g m c es := ob4.kept g5 (by omega)
    have B5 : Below w.heap.size w w5 := B4.grown g5 B4.size (fun m hm => by simp at hm; omega)
    have hcc := ob5.cap'
    have hk0 : (0 : Int) ≤ (k : Int) := by omega
    have hkc : (k : Int) ≤ (c : Int) := by omega
    go_wp2
    go_ret
    exact ⟨g, k, c, es.take k, rfl, own_cut ob5 (by omega), fun z hz => hbe z (List.mem_of_mem_take hz), by omega, B5⟩
  have n1 : ((x : Int) == 1) = false := by simp; omega
  by_cases h2 : x = 2
  · subst h2
    rw [show ((2 : Nat) : Int) = 2 from rfl]
    go_upto_region 9 with fail
    go_wp2_with (first | (at_builtin; refine wpList_app _ rfl (.tmp 34) (.tmp 35) rfl g m c es rfl (World.ownsRow.alloc ob4 _) ⟨w4.heap.size, 0, none⟩ 1 1 [(0 : Int)] rfl rfl (one_news w4 _) (by omega) (w4.heap.size + 1) (by simp) ?_; intro g5 c5 w5 ho5 hg5 ha5) | fail)
    go_ret
    refine ⟨g5, m + 1, c5, es ++ [0], rfl, ho5, byt_app hbe (fun z hz => by simp at hz; omega), by omega, (B4.alloc B4.size _).grown hg5 (by simp; have := B4.size; omega) (fun j hj => by simp at hj; omega)⟩
  have n2 : ((x : Int) == 2) = false := by simp; omega
  go_wp2
  go_ret
  exact ⟨g, m, c, es, rfl, ob4, hbe, by omega, B4⟩


set_option maxHeartbeats 1000000 in
theorem sameL_any (a a' : Option Addr) (n m cap cap' : Nat) (zs ys : List Int) (w : World) (hn : zs.length = n) (hm : ys.length = m) (hs : n ≤ 4000000) (hs' : m ≤ 4000000) (hr : Rd w a zs) (hr' : Rd w a' ys) :
    Calls Try.prog 24 #[.slice a n cap, .slice a' m cap'] w fun e w' => e = .returned (.bool (decide (zs = ys))) ∧ ∃ d, w' = w.drewN d := by
  by_cases hnm : n = m
  · subst hnm
    by_cases h0 : n = 0
    · subst h0
      obtain rfl : zs = [] := List.length_eq_zero_iff.1 hn
      obtain rfl : ys = [] := List.length_eq_zero_iff.1 hm
      go_enter Try.func24, Try.ntmps24
      go_wp2
      refine wp_loop_rounds 1 ?_; rw [rounds_succ]
      go_wp2
      go_ret
      exact ⟨rfl, 0, rfl⟩
    · obtain ⟨b, off, rfl, hlt, hc⟩ := hr.lt (by intro h; subst h; simp at hn; omega)
      obtain ⟨b', off', rfl, hlt', hc'⟩ := hr'.lt (by intro h; subst h; simp at hm; omega)
      have HC : Hid _ := hc
      have HC' : Hid _ := hc'
      have hn' : Hid (zs.length = n) := hn
      have hm' : Hid (ys.length = n) := hm
      clear hr hr' hc hc' hn hm
      go_enter Try.func24, Try.ntmps24
      go_wp2
      go_loopw [5] (fun i wr => ∃ k d : Nat, k ≤ n ∧ i = .int .i64 k ∧ wr = w.drewN d ∧ Hid (∀ j, j < k → zs.getD j 0 = ys.getD j 0)) (fun i _ => n - (intOf i).toNat)
      case atStart => exact ⟨0, 0, Nat.zero_le _, rfl, rfl, fun j hj => by omega⟩
      case round =>
        obtain ⟨k, d, hk, rfl, hwr0, hall⟩ := hrel
        have hwr : Hid (wr = w.drewN d) := hwr0
        have hcells : ∀ p, wr.cell? p = w.cell? p := fun p => by rw [hwr0]; rfl
        clear hwr0
        by_cases hkn : k < n
        · have hki : (k : Int) < (n : Int) := by omega
          have x1 := HC.out k (by rw [hn'.out]; exact hkn)
          have y1 := HC'.out k (by rw [hm'.out]; exact hkn)
          rw [← hcells] at x1 y1
          have hyes : zs.getD k 0 = ys.getD k 0 → ∀ j, j < k + 1 → zs.getD j 0 = ys.getD j 0 := by
            intro e j hj
            rcases (show j < k ∨ j = k by omega) with hj | rfl
            · exact hall.out j hj
            · exact e
          have hno : zs.getD k 0 ≠ ys.getD k 0 → decide (zs = ys) = false := fun e => decide_eq_false (fun e' => e (by rw [e']))
          obtain ⟨z, hz⟩ : ∃ z, zs.getD k 0 = z := ⟨_, rfl⟩
          obtain ⟨y, hy⟩ : ∃ y, ys.getD k 0 = y := ⟨_, rfl⟩
          rw [hz] at x1 hyes hno
          rw [hy] at y1 hyes hno
          by_cases heq : z = y
          · have heq' : (z == y) = true := by simp [heq]
            have hnx : Hid _ := hyes heq
            clear hyes hno heq hz hy hcells hall
            go_wp2
            go_quiet (fail)
            go_wp2
            go_roundw
            case rel => exact ⟨k + 1, d + nq, by omega, by go_num, by rw [hwr.out, World.drewN_drewN], hnx⟩
            case measure => simp [intOf]; omega
          · have heq' : (z == y) = false := by simp [heq]
            have hfin : Hid _ := hno heq
            clear hyes hno heq hz hy hcells hall
            go_wp2
            go_quiet (fail)
            go_wp2
            go_ret
            exact ⟨ret_bool hfin.out.symm, d + nq, by rw [hwr.out, World.drewN_drewN]⟩
        · have hki : ¬ (k : Int) < (n : Int) := by omega
          have hfin : Hid (decide (zs = ys) = true) := decide_eq_true (List.ext_getElem (by rw [hn'.out, hm'.out]) (fun j h h' => by
            have := hall.out j (by rw [hn'.out] at h; omega)
            simpa [h, h'] using this))
          clear hcells hall
          go_wp2
          go_ret
          exact ⟨ret_bool hfin.out.symm, d, hwr.out⟩
  · have hne : Hid (decide (zs = ys) = false) := decide_eq_false (fun e => hnm (by rw [← hn, ← hm, e]))
    have hnm' : ((n : Int) == (m : Int)) = false := by simp; omega
    clear hr hr' hn hm hnm
    go_enter Try.func24, Try.ntmps24
    go_wp2
    go_ret
    exact ⟨ret_bool hne.out.symm, 0, rfl⟩

/-- What DrawSameInode draws. -/
def DrawnS (w : World) (e : Ending) (w' : World) : Prop :=
  ∃ (D : InoD) (a1 : Option Addr) (c1 : Nat) (a2 : Option Addr) (c2 : Nat) (a3 : Option Addr) (c3 : Nat) (E : InoD) (b1 : Option Addr) (d1 : Nat) (b2 : Option Addr) (d2 : Nat) (b3 : Option Addr) (d3 : Nat), e = .returned (.tuple #[.agg #[.int .i64 D.ino, .int .i64 D.kind, .int .i64 D.links, .slice a1 D.data.length c1, .slice a2 D.ents.length c2, .slice a3 D.attrs.length c3], .agg #[.int .i64 E.ino, .int .i64 E.kind, .int .i64 E.links, .slice b1 E.data.length d1, .slice b2 E.ents.length d2, .slice b3 E.attrs.length d3]]) ∧ InoRd w' D a1 a2 a3 ∧ InoRd w' E b1 b2 b3 ∧ DrA D ∧ DrA E ∧ Below w.heap.size w w'
theorem LB.kp {W W' : World} {B : Nat} {D : InoD} {v1 v2 v3 : Value} (h : LB W B D v1 v2 v3) (k : KpT W W' [5, 35, 77]) : LB W' B D v1 v2 v3 :=
  ⟨row_kp h.d k (by decide), h.byt, row_kp h.e k (by decide), row_kp h.t k (by decide)⟩
/-- Two result boxes and the drawn inode's, and its lists. -/
structure DS (w W : World) (X : Nat) (D : InoD) (v1 v2 v3 : Value) (B : Nat) : Prop where
  below : Below w.heap.size w W
  r0 : Blk W w.heap.size 27 #[.int .i64 0, .int .i64 0, .int .i64 0, .slice none 0 0, .slice none 0 0, .slice none 0 0]
  r1 : Blk W (w.heap.size + 1) 27 #[.int .i64 0, .int .i64 0, .int .i64 0, .slice none 0 0, .slice none 0 0, .slice none 0 0]
  x : Blk W X 27 #[.int .i64 D.ino, .int .i64 D.kind, .int .i64 D.links, v1, v2, v3]
  lb : LB W B D v1 v2 v3
theorem DS.keep {w W W' : World} {X B : Nat} {D : InoD} {v1 v2 v3 : Value} (h : DS w W X D v1 v2 v3 B) (hb : Below W.heap.size W W') : DS w W' X D v1 v2 v3 B :=
  ⟨h.below.trans (hb.mono h.below.size), h.r0.keep hb, h.r1.keep hb, h.x.keep hb, h.lb.kp (KpT.below hb _)⟩
theorem DS.cur {w W W' : World} {X B : Nat} {D : InoD} {v1 v2 v3 : Value} {gc sn scap : Nat} {sa : Option Addr} {zs : List Int} (h : DS w W X D v1 v2 v3 B) (hs : Src W gc sn scap sa zs) (hg : W.grownBy W' (some gc)) (hw : w.heap.size ≤ gc) : DS w W' X D v1 v2 v3 B := by
  obtain ⟨i, hh, _, hb⟩ := hs.cur
  have k : KpT W W' [27, 5, 35, 77] := KpT.grown (t := 118) hg hb (by decide)
  exact ⟨h.below.grown hg h.below.size (fun m hm => by simp at hm; omega), h.r0.kp k (by decide), h.r1.kp k (by decide), h.x.kp k (by decide), ⟨row_kp h.lb.d k (by decide), h.lb.byt, row_kp h.lb.e k (by decide), row_kp h.lb.t k (by decide)⟩⟩
theorem gr6 (W : World) (H : Nat) (v0 v1 v2 v3 v4 v5 : Value) : W.grownBy ((((((W.setCell ⟨H, 0, none⟩ v0).setCell ⟨H, 1, none⟩ v1).setCell ⟨H, 2, none⟩ v2).setCell ⟨H, 3, none⟩ v3).setCell ⟨H, 4, none⟩ v4).setCell ⟨H, 5, none⟩ v5) (some H) :=
  gr_more (gr_more (gr_more (gr_more (gr_more (gr_setC W H 0 v0) 1 v1) 2 v2) 3 v3) 4 v4) 5 v5
theorem ds_end {w W : World} {X B : Nat} {D E : InoD} {a1 a2 a3 b1 b2 b3 : Option Addr} {c1 c2 c3 d1 d2 d3 : Nat} (h : DS w W X D (.slice a1 D.data.length c1) (.slice a2 D.ents.length c2) (.slice a3 D.attrs.length c3) B) (hE : ∀ W' : World, KpT W W' [5, 35, 77] → (∀ b, w.heap.size + 1 < b → b < W.heap.size → W'.heap[b]? = W.heap[b]?) → InoRd W' E b1 b2 b3) (hD : DrA D) (hA : DrA E)
    {V U : World} (hV : V = ((((((W.setCell ⟨w.heap.size, 0, none⟩ (.int .i64 D.ino)).setCell ⟨w.heap.size, 1, none⟩ (.int .i64 D.kind)).setCell ⟨w.heap.size, 2, none⟩ (.int .i64 D.links)).setCell ⟨w.heap.size, 3, none⟩ (.slice a1 D.data.length c1)).setCell ⟨w.heap.size, 4, none⟩ (.slice a2 D.ents.length c2)).setCell ⟨w.heap.size, 5, none⟩ (.slice a3 D.attrs.length c3)))
    (hU : U = ((((((V.setCell ⟨w.heap.size + 1, 0, none⟩ (.int .i64 E.ino)).setCell ⟨w.heap.size + 1, 1, none⟩ (.int .i64 E.kind)).setCell ⟨w.heap.size + 1, 2, none⟩ (.int .i64 E.links)).setCell ⟨w.heap.size + 1, 3, none⟩ (.slice b1 E.data.length d1)).setCell ⟨w.heap.size + 1, 4, none⟩ (.slice b2 E.ents.length d2)).setCell ⟨w.heap.size + 1, 5, none⟩ (.slice b3 E.attrs.length d3))) :
    Blk U w.heap.size 27 #[.int .i64 D.ino, .int .i64 D.kind, .int .i64 D.links, .slice a1 D.data.length c1, .slice a2 D.ents.length c2, .slice a3 D.attrs.length c3] ∧ Blk U (w.heap.size + 1) 27 #[.int .i64 E.ino, .int .i64 E.kind, .int .i64 E.links, .slice b1 E.data.length d1, .slice b2 E.ents.length d2, .slice b3 E.attrs.length d3] ∧ DrawnS w (.returned (.tuple #[.agg #[.int .i64 D.ino, .int .i64 D.kind, .int .i64 D.links, .slice a1 D.data.length c1, .slice a2 D.ents.length c2, .slice a3 D.attrs.length c3], .agg #[.int .i64 E.ino, .int .i64 E.kind, .int .i64 E.links, .slice b1 E.data.length d1, .slice b2 E.ents.length d2, .slice b3 E.attrs.length d3]])) U := by
  have g1 := gr6 W w.heap.size (.int .i64 D.ino) (.int .i64 D.kind) (.int .i64 D.links) (.slice a1 D.data.length c1) (.slice a2 D.ents.length c2) (.slice a3 D.attrs.length c3)
  rw [← hV] at g1
  have z0 : Blk V w.heap.size 27 #[.int .i64 D.ino, .int .i64 D.kind, .int .i64 D.links, .slice a1 D.data.length c1, .slice a2 D.ents.length c2, .slice a3 D.attrs.length c3] := by
    rw [hV]
    exact (((((h.r0.set 0 _).set 1 _).set 2 _).set 3 _).set 4 _).set 5 _
  have z1 : Blk V (w.heap.size + 1) 27 #[.int .i64 0, .int .i64 0, .int .i64 0, .slice none 0 0, .slice none 0 0, .slice none 0 0] := h.r1.kept g1 (by omega)
  have k1 : KpT W V [5, 35, 77] := KpT.grown g1 h.r0 (by decide)
  have g2 := gr6 V (w.heap.size + 1) (.int .i64 E.ino) (.int .i64 E.kind) (.int .i64 E.links) (.slice b1 E.data.length d1) (.slice b2 E.ents.length d2) (.slice b3 E.attrs.length d3)
  rw [← hU] at g2
  have y1 : Blk U (w.heap.size + 1) 27 #[.int .i64 E.ino, .int .i64 E.kind, .int .i64 E.links, .slice b1 E.data.length d1, .slice b2 E.ents.length d2, .slice b3 E.attrs.length d3] := by
    rw [hU]
    exact (((((z1.set 0 _).set 1 _).set 2 _).set 3 _).set 4 _).set 5 _
  have y0 : Blk U w.heap.size 27 #[.int .i64 D.ino, .int .i64 D.kind, .int .i64 D.links, .slice a1 D.data.length c1, .slice a2 D.ents.length c2, .slice a3 D.attrs.length c3] := z0.kept g2 (by omega)
  have k2 : KpT V U [5, 35, 77] := KpT.grown g2 z1 (by decide)
  have B1 : Below w.heap.size w V := h.below.grown g1 h.below.size (fun m hm => by simp at hm; omega)
  exact ⟨y0, y1, D, a1, c1, a2, c2, a3, c3, E, b1, d1, b2, d2, b3, d3, rfl, ((h.lb.kp k1).kp k2).rd, hE U (KpT.trans' k1 k2) (fun b h1 h2 => (g2.block b (by have := g1.size; omega) (by simp; omega)).trans (g1.block b h2 (by simp; omega))), hD, hA, B1.grown g2 B1.size (fun m hm => by simp at hm; omega)⟩

set_option maxRecDepth 100000 in
set_option maxHeartbeats 4000000 in
theorem drawSameInode_any (a : Option Addr) (n cap : Nat) (zs : List Int) (w : World) (hn : zs.length = n) (hs : n ≤ 1048576) (hr : Rd w a zs) (hb : Byt zs) :
    Calls Try.prog 23 #[.slice a n cap] w fun e w' => DrawnS w e w' := by
  obtain ⟨W0, hW0⟩ : ∃ W, (w.alloc (.cells #[.int .i64 0, .int .i64 0, .int .i64 0, .slice none 0 0, .slice none 0 0, .slice none 0 0] 27)).alloc (.cells #[.int .i64 0, .int .i64 0, .int .i64 0, .slice none 0 0, .slice none 0 0, .slice none 0 0] 27) = W := ⟨_, rfl⟩
  have b0 : Below w.heap.size w W0 := by
    rw [← hW0]
    exact ((Below.refl _ w).alloc (Nat.le_refl _) _).alloc (by simp) _
  have z0 : Blk W0 w.heap.size 27 #[.int .i64 0, .int .i64 0, .int .i64 0, .slice none 0 0, .slice none 0 0, .slice none 0 0] := by rw [← hW0]; exact (Blk.new w 27 #[.int .i64 0, .int .i64 0, .int .i64 0, .slice none 0 0, .slice none 0 0, .slice none 0 0]).alloc _
  have z1 : Blk W0 (w.heap.size + 1) 27 #[.int .i64 0, .int .i64 0, .int .i64 0, .slice none 0 0, .slice none 0 0, .slice none 0 0] := by
    rw [← hW0]
    have := Blk.new (w.alloc (.cells #[.int .i64 0, .int .i64 0, .int .i64 0, .slice none 0 0, .slice none 0 0, .slice none 0 0] 27)) 27 #[.int .i64 0, .int .i64 0, .int .i64 0, .slice none 0 0, .slice none 0 0, .slice none 0 0]
    simpa using this
  have hsz : W0.heap.size = w.heap.size + 2 := by rw [← hW0]; simp
  have HSZ : Hid _ := hsz
  have HW : Hid _ := hW0
  have hr0 := hr.keep b0
  clear hr hW0
  go_enter Try.func23, Try.ntmps23
  go_upto_region 1 with fail
  rw [HW.out]
  go_wp2_with fail
  refine (new_step a n cap zs W0 hn hs hr0 hb).mono ?_
  rintro e w1 ⟨rfl, s1, b1⟩
  have r0 := z0.keep b1
  have r1 := z1.keep b1
  have B1 := b0.trans (b1.mono b0.size)
  rw [HSZ.out] at s1 ⊢
  clear z0 z1 b0 b1 hr0 hb hn hsz
  go_wp2_with fail
  (with_reducible refine (l3Any_any _ n cap a zs w1 s1).mono ?_)
  rintro e w2 ⟨D, v1, v2, v3, rfl, lb, hD, s2, g2⟩
  obtain ⟨a1, c1, rfl⟩ := val_shape lb.d
  obtain ⟨a2, c2, rfl⟩ := val_shape lb.e
  obtain ⟨a3, c3, rfl⟩ := val_shape lb.t
  have bX : Below w2.heap.size w2 (w2.alloc (.cells #[.int .i64 D.ino, .int .i64 D.kind, .int .i64 D.links, .slice a1 D.data.length c1, .slice a2 D.ents.length c2, .slice a3 D.attrs.length c3] 27)) := (Below.refl _ w2).alloc (Nat.le_refl _) _
  have B2 : Below w.heap.size w w2 := B1.grown g2 B1.size (fun m hm => by simp at hm; omega)
  have ds : DS w (w2.alloc (.cells #[.int .i64 D.ino, .int .i64 D.kind, .int .i64 D.links, .slice a1 D.data.length c1, .slice a2 D.ents.length c2, .slice a3 D.attrs.length c3] 27)) w2.heap.size D (.slice a1 D.data.length c1) (.slice a2 D.ents.length c2) (.slice a3 D.attrs.length c3) w1.heap.size :=
    ⟨B2.trans (bX.mono B2.size), (r0.kept g2 (by omega)).keep bX, (r1.kept g2 (by omega)).keep bX, Blk.new w2 _ _, lb.kp (KpT.below bX _)⟩
  have s3 := s2.alloc (.cells #[.int .i64 D.ino, .int .i64 D.kind, .int .i64 D.links, .slice a1 D.data.length c1, .slice a2 D.ents.length c2, .slice a3 D.attrs.length c3] 27)
  have hxl : w.heap.size + 2 < w2.heap.size := by have := s1.cur.lt; have := g2.size; omega
  clear bX B2 B1 r0 r1 lb s1 s2 g2
  go_upto_region 3 with fail
  obtain ⟨W3, hW3⟩ : ∃ W, w2.alloc (.cells #[.int .i64 D.ino, .int .i64 D.kind, .int .i64 D.links, .slice a1 D.data.length c1, .slice a2 D.ents.length c2, .slice a3 D.attrs.length c3] 27) = W := ⟨_, rfl⟩
  obtain ⟨X, hX⟩ : ∃ X, w2.heap.size = X := ⟨_, rfl⟩
  rw [hW3, hX] at ds
  rw [hW3] at s3 ⊢
  rw [hX] at hxl ⊢
  clear hW3 hX
  have n1 : ¬ X = w.heap.size := by omega
  have n2 : ¬ w.heap.size = X := by omega
  have n3 : ¬ X = w.heap.size + 1 := by omega
  have n4 : ¬ w.heap.size + 1 = X := by omega
  go_wp2_with fail
  refine (once_step _ n cap a zs 2 W3 s3 (by omega) (by omega)).mono ?_
  rintro e w4 ⟨b, rfl, s4, g4⟩
  have d4 := ds.cur s3 g4 (by omega)
  clear ds s3 g4
  obtain ⟨x0, x1, x2, x3, x4, x5⟩ := d4.x.six
  have D4 : Hid _ := d4
  cases b with
  | true =>
    have hcC := l3Copy_any D a1 a2 a3 c1 c2 c3 w4.drew hD.small (InoRd.keep d4.lb.rd (Below.refl _ w4).drew)
    clear d4 s4
    go_upto_region 4 with fail
    go_region_held3 (fun W : World => W.cell? ⟨X, 0, none⟩ = some (.int .i64 D.ino) ∧ W.cell? ⟨X, 1, none⟩ = some (.int .i64 D.kind) ∧ W.cell? ⟨X, 2, none⟩ = some (.int .i64 D.links) ∧ W.cell? ⟨X, 3, none⟩ = some (.slice a1 D.data.length c1) ∧ W.cell? ⟨X, 4, none⟩ = some (.slice a2 D.ents.length c2) ∧ W.cell? ⟨X, 5, none⟩ = some (.slice a3 D.attrs.length c3)) (go_keep) ((go_at_call 74; (with_reducible refine hcC.mono ?_); rintro e w5 ⟨b1, d1, b2, d2, b3, d3, rfl, gC, bC⟩; have bD : Below w4.heap.size w4 w5 := (Below.refl w4.heap.size w4).drew.trans bC; have d5 := DS.keep D4.out bD; obtain ⟨y0, y1, y2, y3, y4, y5⟩ := d5.x.six; obtain ⟨p0, p1, p2, p3, p4, p5⟩ := d5.r0.six; obtain ⟨q0, q1, q2, q3, q4, q5⟩ := d5.r1.six; have f0 := d5.r0.frozen 0; have f1 := d5.r0.frozen 1; have f2 := d5.r0.frozen 2; have f3 := d5.r0.frozen 3; have f4 := d5.r0.frozen 4; have f5 := d5.r0.frozen 5; have h0 := d5.r1.frozen 0; have h1 := d5.r1.frozen 1; have h2 := d5.r1.frozen 2; have h3 := d5.r1.frozen 3; have h4 := d5.r1.frozen 4; have h5 := d5.r1.frozen 5))
    obtain ⟨t0, t1, hfin⟩ := ds_end d5 (E := D) (b1 := b1) (b2 := b2) (b3 := b3) (d1 := d1) (d2 := d2) (d3 := d3) (fun W' _ kk => inoG_read (gC.kept (fun b h1 h2 => kk b (by have := D4.out.x.lt; have h3 : w4.heap.size ≤ b := h1; omega) h2))) hD hD rfl rfl
    have HF : Hid _ := hfin
    obtain ⟨e0, e1, e2, e3, e4, e5⟩ := t0.six
    obtain ⟨l0, l1, l2, l3, l4, l5⟩ := t1.six
    clear t0 t1 hfin d5
    go_wp2
    refine bodyPost_ret (v := .tuple #[.agg #[.int .i64 D.ino, .int .i64 D.kind, .int .i64 D.links, .slice a1 D.data.length c1, .slice a2 D.ents.length c2, .slice a3 D.attrs.length c3], .agg #[.int .i64 D.ino, .int .i64 D.kind, .int .i64 D.links, .slice b1 D.data.length d1, .slice b2 D.ents.length d2, .slice b3 D.attrs.length d3]]) (by simp [results, Try.f23, go_sem, e0, e1, e2, e3, e4, e5, l0, l1, l2, l3, l4, l5]) rfl HF.out
  | false =>
    have s4d := s4.drew
    have hcA := l3Any_any _ n cap a zs w4.drew s4d
    clear d4
    go_upto_region 5 with fail
    go_region_held3 (fun W : World => W.cell? ⟨X, 0, none⟩ = some (.int .i64 D.ino) ∧ W.cell? ⟨X, 1, none⟩ = some (.int .i64 D.kind) ∧ W.cell? ⟨X, 2, none⟩ = some (.int .i64 D.links) ∧ W.cell? ⟨X, 3, none⟩ = some (.slice a1 D.data.length c1) ∧ W.cell? ⟨X, 4, none⟩ = some (.slice a2 D.ents.length c2) ∧ W.cell? ⟨X, 5, none⟩ = some (.slice a3 D.attrs.length c3)) (go_keep) ((go_at_call 53; (with_reducible refine hcA.mono ?_); rintro e w5 ⟨E, u1, u2, u3, rfl, lE, hE, s5, g5⟩; obtain ⟨b1, d1, rfl⟩ := val_shape lE.d; obtain ⟨b2, d2, rfl⟩ := val_shape lE.e; obtain ⟨b3, d3, rfl⟩ := val_shape lE.t; have d5 := (DS.keep D4.out (Below.refl w4.heap.size w4).drew).cur s4d g5 (by omega); obtain ⟨y0, y1, y2, y3, y4, y5⟩ := d5.x.six; obtain ⟨p0, p1, p2, p3, p4, p5⟩ := d5.r0.six; obtain ⟨q0, q1, q2, q3, q4, q5⟩ := d5.r1.six; have f0 := d5.r0.frozen 0; have f1 := d5.r0.frozen 1; have f2 := d5.r0.frozen 2; have f3 := d5.r0.frozen 3; have f4 := d5.r0.frozen 4; have f5 := d5.r0.frozen 5; have h0 := d5.r1.frozen 0; have h1 := d5.r1.frozen 1; have h2 := d5.r1.frozen 2; have h3 := d5.r1.frozen 3; have h4 := d5.r1.frozen 4; have h5 := d5.r1.frozen 5))
    obtain ⟨t0, t1, hfin⟩ := ds_end d5 (E := E) (b1 := b1) (b2 := b2) (b3 := b3) (d1 := d1) (d2 := d2) (d3 := d3) (fun W' k _ => (lE.kp k).rd) hD hE rfl rfl
    have HF : Hid _ := hfin
    obtain ⟨e0, e1, e2, e3, e4, e5⟩ := t0.six
    obtain ⟨l0, l1, l2, l3, l4, l5⟩ := t1.six
    clear t0 t1 hfin d5
    go_wp2
    refine bodyPost_ret (v := .tuple #[.agg #[.int .i64 D.ino, .int .i64 D.kind, .int .i64 D.links, .slice a1 D.data.length c1, .slice a2 D.ents.length c2, .slice a3 D.attrs.length c3], .agg #[.int .i64 E.ino, .int .i64 E.kind, .int .i64 E.links, .slice b1 E.data.length d1, .slice b2 E.ents.length d2, .slice b3 E.attrs.length d3]]) (by simp [results, Try.f23, go_sem, e0, e1, e2, e3, e4, e5, l0, l1, l2, l3, l4, l5]) rfl HF.out

theorem sameL_self (a a' : Option Addr) (n cap cap' : Nat) (ys : List Int) (w : World) (hn : ys.length = n) (hs : n ≤ 4000000) (hr : Rd w a ys) (hr' : Rd w a' ys) :
    Calls Try.prog 24 #[.slice a n cap, .slice a' n cap'] w fun e w' => e = .returned (.bool true) ∧ Below w.heap.size w w' :=
  (sameL_any a a' n n cap cap' ys ys w hn hn hs hs hr hr').mono fun _ _ ⟨h1, d, h2⟩ => ⟨by rw [h1]; simp, drewN_below ⟨d, h2⟩⟩
end Go.Proofs.Ytnllhpeddoaehaa
