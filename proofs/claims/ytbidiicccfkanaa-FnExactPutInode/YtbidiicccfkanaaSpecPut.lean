/-
  What the specification's PutInode answers.
-/
import Derived.Test.YtbidiicccfkanaaInoEnc
import Derived.Test.YtbidiicccfkanaaMarkIno
import Derived.Deep.DeepCutAuto
import Derived.Deep.RegionHeld3
namespace Go.Proofs.Ytbidiicccfkanaa
open Go.RowKit

theorem specText' (g c : Nat) (acc : List Int) (z : ByteArray) (W : World) (hs : acc.length ≤ 100000) (hz : z.size ≤ 100000) (ho : Own W g acc.length c acc) :
    Calls Try.prog 31 #[.slice (some ⟨g, 0, none⟩) acc.length c, .string z] W (PutPost W (acc ++ encT z).length (acc ++ encT z)) := by
  have h := specPutText_any ⟨g, 0, none⟩ acc.length c acc z W rfl (by omega) (by omega) ho.rd
  rw [List.append_assoc, show enc (z.size : Int) ++ strZ z = encT z from rfl, show acc.length + (enc (z.size : Int)).length + z.size = (acc ++ encT z).length by rw [List.length_append, encT, List.length_append, strZ_len]; omega] at h
  exact h
theorem specNum' (g c : Nat) (acc : List Int) (x : Int) (W : World) (hs : acc.length ≤ 100000) (ho : Own W g acc.length c acc) :
    Calls Try.prog 68 #[.slice (some ⟨g, 0, none⟩) acc.length c, .int .i64 x] W (PutPost W (acc ++ enc x).length (acc ++ enc x)) := by
  have h := specPutNum_any ⟨g, 0, none⟩ acc.length c acc x W rfl (by omega) ho.rd
  rw [← List.length_append] at h
  exact h
theorem specNum0 (ad : Addr) (x : Int) (W : World) :
    Calls Try.prog 68 #[.slice (some ad) 0 0, .int .i64 x] W (PutPost W (enc x).length (enc x)) := by
  have h := specPutNum_any ad 0 0 [] x W rfl (by omega) (.inl rfl)
  rw [Nat.zero_add, List.nil_append] at h
  exact h

set_option maxRecDepth 100000 in
set_option maxHeartbeats 8000000 in
theorem putS_yes (D : InoD) (a1 a2 a3 : Option Addr) (c1 c2 c3 : Nat) (w : World) (hm : InoSmall D) (hr : InoRd w D a1 a2 a3) (hok : inoOk D = true) :
    Calls Try.prog 40 #[inoV D a1 c1 a2 c2 a3 c3] w (PutPost w (inoEnc D).length (inoEnc D)) := by
  have hlim := inoOk_lim hok
  have l1 := hlim.data
  have l2 := hlim.ents
  have l3 := hlim.attrs
  have B0 : Below w.heap.size w (w.alloc (.cells (inoC D a1 c1 a2 c2 a3 c3) 37)) := (Below.refl _ w).alloc (Nat.le_refl _) _
  have z0 := Box.new w 37 D a1 a2 a3 c1 c2 c3
  unfold inoC at B0 z0
  rw [show inoV D a1 c1 a2 c2 a3 c3 = .agg #[.int .i64 D.ino, .int .i64 D.kind, .int .i64 D.links, .slice a1 D.data.length c1, .slice a2 D.ents.length c2, .slice a3 D.attrs.length c3] from rfl]
  go_enter Try.func40, Try.ntmps40
  go_wp2_with fail
  obtain ⟨W0, hW0⟩ : ∃ W, w.alloc (.cells #[.int .i64 D.ino, .int .i64 D.kind, .int .i64 D.links, .slice a1 D.data.length c1, .slice a2 D.ents.length c2, .slice a3 D.attrs.length c3] 37) = W := ⟨_, rfl⟩
  rw [hW0] at B0 z0 ⊢
  clear hW0
  refine (inoOkS D a1 a2 a3 c1 c2 c3 W0 hm (hr.keep B0)).mono ?_
  rintro e w1 ⟨rfl, b1⟩
  rw [hok]
  have B1 := B0.trans (b1.mono B0.size)
  have z1 := z0.keep b1
  have r1 := hr.keep B1
  have hb1 := B1.size
  clear B0 z0 b1 hr hm
  obtain ⟨q0, q1, q2, q3, q4, q5⟩ := z1.six
  have L1 := enc_len D.ino
  have L2 := enc_len D.kind
  have L3 := enc_len D.links
  have bX : Below w1.heap.size w1 (w1.alloc (.cells #[] 5)).drew := ((Below.refl _ w1).alloc (Nat.le_refl _) _).drew
  have zX := z1.keep bX
  have bX' : Below w1.heap.size w1 (w1.alloc (.cells #[] 5)) := (Below.refl _ w1).alloc (Nat.le_refl _) _
  obtain ⟨i0, i1, i2, i3, i4, i5⟩ := (z1.keep bX').six
  have n1 : ∀ (W : World) (ad : Addr), Calls Try.prog 68 #[.slice (some ad) 0 0, .int .i64 D.ino] W (PutPost W (enc D.ino).length (enc D.ino)) := fun W ad => specNum0 ad D.ino W
  have n2 : ∀ (W : World) (g c : Nat), Own W g (enc D.ino).length c (enc D.ino) → Calls Try.prog 68 #[.slice (some ⟨g, 0, none⟩) (enc D.ino).length c, .int .i64 D.kind] W (PutPost W (enc D.ino ++ enc D.kind).length (enc D.ino ++ enc D.kind)) := fun W g c h => specNum' g c _ D.kind W (by omega) h
  have n3 : ∀ (W : World) (g c : Nat), Own W g (enc D.ino ++ enc D.kind).length c (enc D.ino ++ enc D.kind) → Calls Try.prog 68 #[.slice (some ⟨g, 0, none⟩) (enc D.ino ++ enc D.kind).length c, .int .i64 D.links] W (PutPost W (enc D.ino ++ enc D.kind ++ enc D.links).length (enc D.ino ++ enc D.kind ++ enc D.links)) := fun W g c h => specNum' g c _ D.links W (by rw [List.length_append]; omega) h
  have HY : Hid (enc D.ino ++ enc D.kind ++ enc D.links = encs [D.ino, D.kind, D.links]) := by show _ = _; simp [encs]
  have f1 : (enc D.ino ++ enc D.kind ++ enc D.links).length ≤ 12 := by rw [List.length_append, List.length_append]; omega
  obtain ⟨Y1, hY1⟩ : ∃ Y, enc D.ino = Y := ⟨_, rfl⟩
  rw [hY1] at n1 n2 n3 HY f1
  obtain ⟨Y2, hY2⟩ : ∃ Y, Y1 ++ enc D.kind = Y := ⟨_, rfl⟩
  rw [hY2] at n2 n3 HY f1
  obtain ⟨Y3, hY3⟩ : ∃ Y, Y2 ++ enc D.links = Y := ⟨_, rfl⟩
  rw [hY3] at n3 HY f1
  clear hY1 hY2 hY3 L1 L2 L3
  go_upto_region 3 with fail
  go_cut [3] (fun s wx => ∃ g c, s = .slice (some ⟨g, 0, none⟩) Y3.length c ∧ w1.heap.size ≤ g ∧ Own wx g Y3.length c Y3 ∧ Below w1.heap.size w1 wx)
  case first =>
    go_region_held3 (fun W : World => W.cell? ⟨w.heap.size, 0, none⟩ = some (.int .i64 D.ino) ∧ W.cell? ⟨w.heap.size, 1, none⟩ = some (.int .i64 D.kind) ∧ W.cell? ⟨w.heap.size, 2, none⟩ = some (.int .i64 D.links)) (go_keep) (first
      | (go_at_call 68; (with_reducible refine (n1 _ _).mono ?_); rintro e wA ⟨gA, cA, rfl, hgA, oA, bA⟩; have zA := zX.keep bA; obtain ⟨s0, s1, s2, s3, s4, s5⟩ := zA.six)
      | (go_at_call 68; (with_reducible refine (n2 wA gA cA oA).mono ?_); rintro e wB ⟨gB, cB, rfl, hgB, oB, bB⟩; have zB := zA.keep bB; obtain ⟨t0, t1, t2, t3, t4, t5⟩ := zB.six)
      | (go_at_call 68; (with_reducible refine (n3 wB gB cB oB).mono ?_); rintro e wC ⟨gC, cC, rfl, hgC, oC, bC⟩; obtain ⟨r0, r1, r2, r3, r4, r5⟩ := (zB.keep bC).six))
    all_goals (go_wp2_with fail; go_meet; have t1 := bX.trans (bA.mono bX.size); have t2 := t1.trans (bB.mono t1.size); exact ⟨gC, cC, rfl, Nat.le_trans t2.size hgC, oC, t2.trans (bC.mono t2.size)⟩)
  case rest =>
  obtain ⟨g, c, rfl, hg, o2, T2⟩ := hcut
  obtain ⟨w2, hwc⟩ : ∃ W, W = wc := ⟨_, rfl⟩
  subst hwc
  clear n1 n2 n3 q0 q1 q2 q3 q4 q5 zX bX bX' i0 i1 i2 i3 i4 i5
  have z2 := z1.keep T2
  obtain ⟨q0, q1, q2, q3, q4, q5⟩ := z2.six
  have e2 : (encT (str D.data)).length ≤ 104 := by have := encT_len (str D.data); rw [str_size] at this; omega
  have hst : (str D.data).size ≤ 100 := by rw [str_size]; omega
  have LE := enc_len (D.ents.length : Int)
  obtain ⟨S, hS⟩ : ∃ S, str D.data = S := ⟨_, rfl⟩
  have hcv0 : ∀ W : World, Below w1.heap.size w1 W → (convert 22 9 (.slice a1 D.data.length c1)).run Try.prog W = .ok (.string S) W := fun W h => by rw [← hS]; exact conv_any W a1 D.data.length c1 D.data rfl (r1.data.keep h)
  have hcv := hcv0 w2 T2
  have hcvd := hcv0 w2.drew T2.drew
  rw [hS] at e2 hst
  have HH : Hid (encH D = Y3 ++ encT S ++ enc (D.ents.length : Int)) := by show _ = _; unfold encH; rw [hS, ← HY.out, encTs_one, encs_one]
  have HCV : Hid _ := hcv0
  clear HY hS hcv0
  have m1 : ∀ (W : World), Own W g Y3.length c Y3 → Calls Try.prog 31 #[.slice (some ⟨g, 0, none⟩) Y3.length c, .string S] W (PutPost W (Y3 ++ encT S).length (Y3 ++ encT S)) := fun W h => specText' g c _ S W (by omega) (by omega) h
  have m2 : ∀ (W : World) (g c : Nat), Own W g (Y3 ++ encT S).length c (Y3 ++ encT S) → Calls Try.prog 68 #[.slice (some ⟨g, 0, none⟩) (Y3 ++ encT S).length c, .int .i64 (D.ents.length : Int)] W (PutPost W (Y3 ++ encT S ++ enc (D.ents.length : Int)).length (Y3 ++ encT S ++ enc (D.ents.length : Int))) := fun W g c h => specNum' g c _ _ W (by rw [List.length_append]; omega) h
  have e4 : (encH D).length ≤ 120 := by rw [HH.out, List.length_append, List.length_append]; omega
  rw [← HH.out] at m2
  obtain ⟨Y4, hY4⟩ : ∃ Y, Y3 ++ encT S = Y := ⟨_, rfl⟩
  rw [hY4] at m1 m2
  obtain ⟨A4, hA4⟩ : ∃ A, encH D = A := ⟨_, rfl⟩
  rw [hA4] at m2 e4
  clear hY4 HH
  have o2d : Own w2.drew g Y3.length c Y3 := o2
  have z2d := z2.keep (Below.refl w2.heap.size w2).drew
  have hw2 := T2.size
  go_upto_region 4 with fail
  go_cut [3] (fun s wx => ∃ g c, s = .slice (some ⟨g, 0, none⟩) A4.length c ∧ w1.heap.size ≤ g ∧ Own wx g A4.length c A4 ∧ Below w1.heap.size w1 wx)
  case first =>
    go_region_held3 (fun W : World => W.cell? ⟨w.heap.size, 3, none⟩ = some (.slice a1 D.data.length c1) ∧ W.cell? ⟨w.heap.size, 4, none⟩ = some (.slice a2 D.ents.length c2) ∧ (convert 22 9 (.slice a1 D.data.length c1)).run Try.prog W = .ok (.string S) W) (go_keep) (first
      | (go_at_call 31; (with_reducible refine (m1 w2.drew o2d).mono ?_); rintro e wA ⟨gA, cA, rfl, hgA, oA, bA⟩; have zA := z2d.keep bA; have tA := T2.drew.trans (bA.mono hw2); have cvA := HCV.out wA tA; obtain ⟨s0, s1, s2, s3, s4, s5⟩ := zA.six)
      | (go_at_call 68; (with_reducible refine (m2 wA gA cA oA).mono ?_); rintro e wB ⟨gB, cB, rfl, hgB, oB, bB⟩; obtain ⟨r0, r1, r2, r3, r4, r5⟩ := (zA.keep bB).six; have cvB := HCV.out wB (tA.trans (bB.mono tA.size))))
    all_goals (go_wp2_with fail; go_meet; have t1 := T2.drew.trans (bA.mono hw2); exact ⟨gB, cB, rfl, Nat.le_trans t1.size hgB, oB, t1.trans (bB.mono t1.size)⟩)
  case rest =>
  obtain ⟨g3, c3', rfl, hg3, o3, T3⟩ := hcut
  obtain ⟨w3, hwc⟩ : ∃ W, W = wc := ⟨_, rfl⟩
  subst hwc
  clear m1 m2 q0 q1 q2 q3 q4 q5 z2 z2d o2 o2d T2 hcv hcvd hw2 e2 hst LE f1
  have HE : Hid (RdP w1 a2 (eP D.ents)) := r1.ents
  have HA : Hid (RdP w1 a3 (aP D.attrs)) := r1.attrs
  have HZ : Hid (∀ W : World, Below w1.heap.size w1 W → W.cell? ⟨w.heap.size, 4, none⟩ = some (.slice a2 D.ents.length c2) ∧ W.cell? ⟨w.heap.size, 5, none⟩ = some (.slice a3 D.attrs.length c3)) := fun W h => ⟨(z1.keep h).six.c4, (z1.keep h).six.c5⟩
  obtain ⟨ents, hents⟩ : ∃ l, D.ents = l := ⟨_, rfl⟩
  obtain ⟨attrs, hattrs⟩ : ∃ l, D.attrs = l := ⟨_, rfl⟩
  have s4 := hlim.entsz
  have s5 := hlim.attrsz
  rw [hents] at HE s4 l2 HZ
  rw [hattrs] at HA s5 l3 HZ
  have HEnc : Hid (inoEnc D = A4 ++ ents.flatMap entE ++ encs [(attrs.length : Int)] ++ attrs.flatMap attE) := by show _ = _; unfold inoEnc; rw [hents, hattrs, hA4]
  obtain ⟨n2, hn2⟩ : ∃ n, ents.length = n := ⟨_, rfl⟩
  obtain ⟨n3, hn3⟩ : ∃ n, attrs.length = n := ⟨_, rfl⟩
  rw [hn2] at l2 HZ
  rw [hn3] at l3 HEnc HZ
  have K2 : Hid (ents.length = n2) := hn2
  have K3 : Hid (attrs.length = n3) := hn3
  clear hents hattrs hn2 hn3 hA4 hlim r1 z1
  have q4 := (HZ.out w3 T3).1
  go_wp2
  go_loopw [3, 4] (fun v i wr => ∃ (k g c : Nat) (acc : List Int), k ≤ n2 ∧ i = .int .i64 k ∧ v = .slice (some ⟨g, 0, none⟩) acc.length c ∧ w1.heap.size ≤ g ∧ Own wr g acc.length c acc ∧ Below w1.heap.size w1 wr ∧ acc.length ≤ 120 + 22 * k ∧ Hid (acc = A4 ++ (ents.take k).flatMap entE)) (fun _ i _ => n2 - (intOf i).toNat)
  case atStart => exact ⟨0, g3, c3', A4, Nat.zero_le _, rfl, rfl, hg3, o3, T3, by omega, by show _ = _; simp⟩
  case round =>
    obtain ⟨k, gk, ck, acc, hk, rfl, rfl, hgk, ho, hB, hlen, hacc⟩ := hrel
    have hbs := hB.size
    have x4 := (HZ.out wr hB).1
    by_cases hkn : k < n2
    · have hkl : k < ents.length := by rw [K2.out]; exact hkn
      have hki : (k : Int) < (n2 : Int) := by omega
      obtain ⟨b, off, rfl, hlt, hc⟩ := RdP.lt HE.out (by intro h; have := congrArg List.length h; rw [eP_length] at this; simp at this; rw [this] at hkl; simp at hkl)
      have hx := hc k (by rw [eP_length]; exact hkl)
      rw [eP_at ents k hkl] at hx
      clear hc
      have hz14 := s4 ents[k] (List.getElem_mem hkl)
      have hnx := fm_take entE ents k hkl
      obtain ⟨z, hz⟩ : ∃ z, ents[k].1 = z := ⟨_, rfl⟩
      obtain ⟨x, hx'⟩ : ∃ u, ents[k].2 = u := ⟨_, rfl⟩
      have hee : entE ents[k] = encT z ++ enc x := by unfold entE; rw [hz, hx']
      rw [hz, hx'] at hx
      rw [hz] at hz14
      rw [hee] at hnx
      have hacc' : Hid (acc ++ encT z ++ enc x = A4 ++ (ents.take (k + 1)).flatMap entE) := by show _ = _; rw [hacc.out, hnx]; simp only [List.append_assoc]
      have HX : Hid (∀ W : World, Below w1.heap.size w1 W → W.cell? ⟨b, off + k * 2, none⟩ = some (.string z) ∧ W.cell? ⟨b, off + k * 2 + 1, none⟩ = some (.int .i64 x)) := fun W h => ⟨(h.cell (by exact hlt)).trans hx.1, (h.cell (by exact hlt)).trans hx.2⟩
      obtain ⟨x1, x2⟩ := HX.out wr hB
      have E1 := encT_len z
      have E2 := enc_len x
      have f2 : (acc ++ encT z ++ enc x).length ≤ acc.length + 22 := by rw [List.length_append, List.length_append]; omega
      have p1 : ∀ (W : World), Own W gk acc.length ck acc → Calls Try.prog 31 #[.slice (some ⟨gk, 0, none⟩) acc.length ck, .string z] W (PutPost W (acc ++ encT z).length (acc ++ encT z)) := fun W h => specText' gk ck _ z W (by omega) (by omega) h
      have p2 : ∀ (W : World) (g c : Nat), Own W g (acc ++ encT z).length c (acc ++ encT z) → Calls Try.prog 68 #[.slice (some ⟨g, 0, none⟩) (acc ++ encT z).length c, .int .i64 x] W (PutPost W (acc ++ encT z ++ enc x).length (acc ++ encT z ++ enc x)) := fun W g c h => specNum' g c _ _ W (by rw [List.length_append]; omega) h
      obtain ⟨bs, hbs'⟩ : ∃ l, acc ++ encT z = l := ⟨_, rfl⟩
      rw [hbs'] at hacc' f2 p1 p2
      obtain ⟨cs, hcs'⟩ : ∃ l, bs ++ enc x = l := ⟨_, rfl⟩
      rw [hcs'] at hacc' f2 p2
      have hod : Own wr.drew gk acc.length ck acc := ho
      clear hz hx' hee hnx hkl hx hbs' hcs' hacc E1 E2
      go_wp2
      go_region_held3 (fun W : World => W.cell? ⟨w.heap.size, 4, none⟩ = some (.slice (some ⟨b, off, none⟩) n2 c2) ∧ W.cell? ⟨b, off + k * 2, none⟩ = some (.string z) ∧ W.cell? ⟨b, off + k * 2 + 1, none⟩ = some (.int .i64 x)) (go_keep) (first
        | (go_at_call 31; (with_reducible refine (p1 wr.drew hod).mono ?_); rintro e wA ⟨gA, cA, rfl, hgA, oA, bA⟩; have tA := hB.drew.trans (bA.mono hbs); have y4 := (HZ.out wA tA).1; obtain ⟨y1, y2⟩ := HX.out wA tA)
        | (go_at_call 68; (with_reducible refine (p2 wA gA cA oA).mono ?_); rintro e wB ⟨gB, cB, rfl, hgB, oB, bB⟩; have tB := tA.trans (bB.mono tA.size); have v4 := HZ.out wB tB; have v5 := HX.out wB tB))
      all_goals go_wp2
      all_goals go_roundw
      all_goals first
        | (case rel => exact ⟨k + 1, gB, cB, cs, by omega, by go_num, rfl, Nat.le_trans tA.size hgB, oB, tA.trans (bB.mono tA.size), by omega, hacc'⟩)
        | (case measure => simp [intOf]; omega)
    · have hki : ¬ (k : Int) < (n2 : Int) := by omega
      obtain rfl : k = n2 := by omega
      have x5 := (HZ.out wr hB).2
      have hall : acc = A4 ++ ents.flatMap entE := by rw [hacc.out, List.take_of_length_le (by rw [K2.out]; omega)]
      have HEnc2 : Hid (inoEnc D = acc ++ enc (n3 : Int) ++ attrs.flatMap attE) := by show _ = _; rw [HEnc.out, hall, encs_one]
      have e5 : (acc ++ enc (n3 : Int)).length ≤ 344 := by rw [List.length_append]; have := enc_len (n3 : Int); omega
      have p0 := specNum' gk ck acc (n3 : Int) wr (by omega) ho
      obtain ⟨A5, hA5⟩ : ∃ A, acc ++ enc (n3 : Int) = A := ⟨_, rfl⟩
      rw [hA5] at p0 e5 HEnc2
      clear hA5 hall hacc HEnc
      go_wp2_with fail
      refine p0.mono ?_
      rintro e w5 ⟨g5, c5, rfl, hg5, o5, t5⟩
      have T5 := hB.trans (t5.mono hbs)
      have hg5' : w1.heap.size ≤ g5 := Nat.le_trans hbs hg5
      clear p0 x4 x5 ho hB t5
      have x5 := (HZ.out w5 T5).2
      go_wp2
      go_loopw [3, 5] (fun v i wr => ∃ (k g c : Nat) (acc : List Int), k ≤ n3 ∧ i = .int .i64 k ∧ v = .slice (some ⟨g, 0, none⟩) acc.length c ∧ w1.heap.size ≤ g ∧ Own wr g acc.length c acc ∧ Below w1.heap.size w1 wr ∧ acc.length ≤ 344 + 38 * k ∧ Hid (acc = A5 ++ (attrs.take k).flatMap attE)) (fun _ i _ => n3 - (intOf i).toNat)
      case atStart => exact ⟨0, g5, c5, A5, Nat.zero_le _, rfl, rfl, hg5', o5, T5, by omega, by show _ = _; simp⟩
      case round =>
        obtain ⟨k, gk, ck, acc, hk, rfl, rfl, hgk, ho, hB, hlen, hacc⟩ := hrel
        have hbs := hB.size
        have x4 := (HZ.out wr hB).2
        by_cases hkn : k < n3
        · have hkl : k < attrs.length := by rw [K3.out]; exact hkn
          have hki : (k : Int) < (n3 : Int) := by omega
          obtain ⟨b, off, rfl, hlt, hc⟩ := RdP.lt HA.out (by intro h; have := congrArg List.length h; rw [aP_length] at this; simp at this; rw [this] at hkl; simp at hkl)
          have hx := hc k (by rw [aP_length]; exact hkl)
          rw [aP_at attrs k hkl] at hx
          clear hc
          obtain ⟨hz14, hx16⟩ := s5 attrs[k] (List.getElem_mem hkl)
          have hnx := fm_take attE attrs k hkl
          obtain ⟨z, hz⟩ : ∃ z, attrs[k].1 = z := ⟨_, rfl⟩
          obtain ⟨x, hx'⟩ : ∃ u, attrs[k].2 = u := ⟨_, rfl⟩
          have hee : attE attrs[k] = encT z ++ encT x := by unfold attE; rw [hz, hx']
          rw [hz, hx'] at hx
          rw [hz] at hz14
          rw [hx'] at hx16
          rw [hee] at hnx
          have hacc' : Hid (acc ++ encT z ++ encT x = A5 ++ (attrs.take (k + 1)).flatMap attE) := by show _ = _; rw [hacc.out, hnx]; simp only [List.append_assoc]
          have HX : Hid (∀ W : World, Below w1.heap.size w1 W → W.cell? ⟨b, off + k * 2, none⟩ = some (.string z) ∧ W.cell? ⟨b, off + k * 2 + 1, none⟩ = some (.string x)) := fun W h => ⟨(h.cell (by exact hlt)).trans hx.1, (h.cell (by exact hlt)).trans hx.2⟩
          obtain ⟨x1, x2⟩ := HX.out wr hB
          have E1 := encT_len z
          have E2 := encT_len x
          have f2 : (acc ++ encT z ++ encT x).length ≤ acc.length + 38 := by rw [List.length_append, List.length_append]; omega
          have p1 : ∀ (W : World), Own W gk acc.length ck acc → Calls Try.prog 31 #[.slice (some ⟨gk, 0, none⟩) acc.length ck, .string z] W (PutPost W (acc ++ encT z).length (acc ++ encT z)) := fun W h => specText' gk ck _ z W (by omega) (by omega) h
          have p2 : ∀ (W : World) (g c : Nat), Own W g (acc ++ encT z).length c (acc ++ encT z) → Calls Try.prog 31 #[.slice (some ⟨g, 0, none⟩) (acc ++ encT z).length c, .string x] W (PutPost W (acc ++ encT z ++ encT x).length (acc ++ encT z ++ encT x)) := fun W g c h => specText' g c _ x W (by rw [List.length_append]; omega) (by omega) h
          obtain ⟨bs, hbs'⟩ : ∃ l, acc ++ encT z = l := ⟨_, rfl⟩
          rw [hbs'] at hacc' f2 p1 p2
          obtain ⟨cs, hcs'⟩ : ∃ l, bs ++ encT x = l := ⟨_, rfl⟩
          rw [hcs'] at hacc' f2 p2
          have hod : Own wr.drew gk acc.length ck acc := ho
          clear hz hx' hee hnx hkl hx hbs' hcs' hacc E1 E2
          go_wp2
          go_region_held3 (fun W : World => W.cell? ⟨w.heap.size, 5, none⟩ = some (.slice (some ⟨b, off, none⟩) n3 c3) ∧ W.cell? ⟨b, off + k * 2, none⟩ = some (.string z) ∧ W.cell? ⟨b, off + k * 2 + 1, none⟩ = some (.string x)) (go_keep) (first
            | (go_at_call 31; (with_reducible refine (p1 wr.drew hod).mono ?_); rintro e wA ⟨gA, cA, rfl, hgA, oA, bA⟩; have tA := hB.drew.trans (bA.mono hbs); have y4 := (HZ.out wA tA).2; obtain ⟨y1, y2⟩ := HX.out wA tA)
            | (go_at_call 31; (with_reducible refine (p2 wA gA cA oA).mono ?_); rintro e wB ⟨gB, cB, rfl, hgB, oB, bB⟩; have tB := tA.trans (bB.mono tA.size); have v4 := HZ.out wB tB; have v5 := HX.out wB tB))
          all_goals go_wp2
          all_goals go_roundw
          all_goals first
            | (case rel => exact ⟨k + 1, gB, cB, cs, by omega, by go_num, rfl, Nat.le_trans tA.size hgB, oB, tA.trans (bB.mono tA.size), by omega, hacc'⟩)
            | (case measure => simp [intOf]; omega)
        · have hki : ¬ (k : Int) < (n3 : Int) := by omega
          have hfin : inoEnc D = acc := by rw [HEnc2.out, hacc.out, List.take_of_length_le (by rw [K3.out]; omega)]
          go_wp2
          go_ret
          first
          | exact ⟨gk, ck, by rw [hfin]; rfl, Nat.le_trans hb1 hgk, by rw [hfin]; exact ho, B1.trans (hB.mono hb1)⟩
          | exact ⟨gk, ck, rfl, Nat.le_trans hb1 hgk, ho, B1.trans (hB.mono hb1)⟩

set_option maxHeartbeats 1000000 in
theorem putS_no (D : InoD) (a1 a2 a3 : Option Addr) (c1 c2 c3 : Nat) (w : World) (hm : InoSmall D) (hr : InoRd w D a1 a2 a3) (hok : inoOk D = false) :
    Calls Try.prog 40 #[inoV D a1 c1 a2 c2 a3 c3] w fun e w' => ∃ g : Nat, e = .returned (.slice (some ⟨g, 0, none⟩) 0 0) ∧ Below w.heap.size w w' := by
  have B0 : Below w.heap.size w (w.alloc (.cells (inoC D a1 c1 a2 c2 a3 c3) 37)) := (Below.refl _ w).alloc (Nat.le_refl _) _
  unfold inoC at B0
  rw [show inoV D a1 c1 a2 c2 a3 c3 = .agg #[.int .i64 D.ino, .int .i64 D.kind, .int .i64 D.links, .slice a1 D.data.length c1, .slice a2 D.ents.length c2, .slice a3 D.attrs.length c3] from rfl]
  go_enter Try.func40, Try.ntmps40
  go_wp2_with fail
  refine (inoOkS D a1 a2 a3 c1 c2 c3 _ hm (hr.keep B0)).mono ?_
  rintro e w1 ⟨rfl, b1⟩
  rw [hok]
  have B1 := B0.trans (b1.mono B0.size)
  go_wp2
  go_ret
  exact ⟨_, rfl, kp_b (Nat.le_refl _) B1 _⟩
end Go.Proofs.Ytbidiicccfkanaa
