/-
  The bytes of an inode.
-/
import Derived.Test.YtnllhpeddoaehaaInoOkI
import Derived.Test.YtnllhpeddoaehaaPutText
import Derived.Test.YtnllhpeddoaehaaSameB
import Derived.Test.YtnllhpeddoaehaaKept
namespace Go.Proofs.Ytnllhpeddoaehaa
open Go.RowKit

def entE (e : ByteArray × Int) : List Int := encT e.1 ++ enc e.2
def attE (a : ByteArray × ByteArray) : List Int := encT a.1 ++ encT a.2
def encH (D : InoD) : List Int := encs [D.ino, D.kind, D.links] ++ encTs [str D.data] ++ encs [(D.ents.length : Int)]
/-- The bytes of an inode. -/
def inoEnc (D : InoD) : List Int := encH D ++ D.ents.flatMap entE ++ encs [(D.attrs.length : Int)] ++ D.attrs.flatMap attE

theorem encT_len (s : ByteArray) : (encT s).length ≤ s.size + 4 := by
  have := enc_len (s.size : Int)
  unfold encT
  rw [List.length_append, strZ_len]
  omega
/-- The limits that hold of an inode that is right. -/
structure InoLim (D : InoD) : Prop where
  data : D.data.length ≤ 100
  ents : D.ents.length ≤ 10
  attrs : D.attrs.length ≤ 4
  entsz : ∀ q ∈ D.ents, q.1.size ≤ 14
  attrsz : ∀ q ∈ D.attrs, q.1.size ≤ 14 ∧ q.2.size ≤ 16
theorem name14 {z : ByteArray} (h : nameOk z.data.toList = true) : z.size ≤ 14 := by
  have := ((nameOk_iff _).1 h).2.1
  rw [Array.length_toList] at this
  exact this
theorem entsOk_self {es : List (ByteArray × Int)} (h : entsOk es = true) : es.length ≤ 10 ∧ ∀ q ∈ es, nameOk q.1.data.toList = true ∧ 2 ≤ q.2 ∧ q.2 ≤ 1000 := by
  rw [entsOk_parts, Bool.and_eq_true, Bool.and_eq_true, decide_eq_true_eq, List.all_eq_true] at h
  refine ⟨h.2, fun q hq => ?_⟩
  obtain ⟨i, hi, rfl⟩ := List.getElem_of_mem hq
  have := h.1.1 i (List.mem_range.2 hi)
  unfold selfE at this
  rw [show es.getD i entD = es[i] by simp [hi]] at this
  simp only [Bool.and_eq_true, decide_eq_true_eq] at this
  exact ⟨this.1, this.2.1, this.2.2⟩
theorem attsOk_self {es : List (ByteArray × ByteArray)} (h : attsOk es = true) : es.length ≤ 4 ∧ ∀ q ∈ es, nameOk q.1.data.toList = true ∧ q.2.size ≤ 16 := by
  rw [attsOk_parts, Bool.and_eq_true, Bool.and_eq_true, decide_eq_true_eq, List.all_eq_true] at h
  refine ⟨h.2, fun q hq => ?_⟩
  obtain ⟨i, hi, rfl⟩ := List.getElem_of_mem hq
  have := h.1.1 i (List.mem_range.2 hi)
  unfold selfA at this
  rw [show es.getD i attD = es[i] by simp [hi]] at this
  simp only [Bool.and_eq_true, decide_eq_true_eq] at this
  exact ⟨this.1, this.2⟩
theorem inoOk_lim {D : InoD} (h : inoOk D = true) : InoLim D := by
  unfold inoOk at h
  simp only [Bool.and_eq_true, decide_eq_true_eq] at h
  obtain ⟨⟨⟨⟨⟨⟨_, _⟩, _⟩, hd⟩, he⟩, ha⟩, _⟩ := h
  obtain ⟨e1, e2⟩ := entsOk_self he
  obtain ⟨a1, a2⟩ := attsOk_self ha
  exact ⟨hd, e1, a1, fun q hq => name14 (e2 q hq).1, fun q hq => ⟨name14 (a2 q hq).1, (a2 q hq).2⟩⟩
theorem fm_take {α : Type} (f : α → List Int) (l : List α) (k : Nat) (h : k < l.length) : (l.take (k + 1)).flatMap f = (l.take k).flatMap f ++ f l[k] := by
  rw [List.take_succ_eq_append_getElem h, List.flatMap_append]
  simp
set_option maxRecDepth 100000 in
set_option maxHeartbeats 2000000 in
theorem putI_yes (D : InoD) (a1 a2 a3 : Option Addr) (c1 c2 c3 : Nat) (w : World) (hm : InoSmall D) (hr : InoRd w D a1 a2 a3) (hok : inoOk D = true) :
    Calls Try.prog 15 #[inoV D a1 c1 a2 c2 a3 c3] w (PutPost w (inoEnc D).length (inoEnc D)) := by
  have hlim := inoOk_lim hok
  have l1 := hlim.data
  have l2 := hlim.ents
  have l3 := hlim.attrs
  have B0 : Below w.heap.size w (w.alloc (.cells (inoC D a1 c1 a2 c2 a3 c3) 27)) := (Below.refl _ w).alloc (Nat.le_refl _) _
  have z0 := Box.new w 27 D a1 a2 a3 c1 c2 c3
  unfold inoC at B0 z0
  rw [show inoV D a1 c1 a2 c2 a3 c3 = .agg #[.int .i64 D.ino, .int .i64 D.kind, .int .i64 D.links, .slice a1 D.data.length c1, .slice a2 D.ents.length c2, .slice a3 D.attrs.length c3] from rfl]
  go_enter Try.func15, Try.ntmps15
  go_wp2_with fail
  obtain ⟨W0, hW0⟩ : ∃ W, w.alloc (.cells #[.int .i64 D.ino, .int .i64 D.kind, .int .i64 D.links, .slice a1 D.data.length c1, .slice a2 D.ents.length c2, .slice a3 D.attrs.length c3] 27) = W := ⟨_, rfl⟩
  rw [hW0] at B0 z0 ⊢
  clear hW0
  refine (inoOkI D a1 a2 a3 c1 c2 c3 W0 hm (hr.keep B0)).mono ?_
  rintro e w1 ⟨rfl, b1⟩
  rw [hok]
  have B1 := B0.trans (b1.mono B0.size)
  have z1 := z0.keep b1
  obtain ⟨q0, q1, q2, q3, q4, q5⟩ := z1.six
  have r1 := hr.keep B1
  have hb1 := B1.size
  clear B0 z0 b1 hr hm
  go_wp2_with fail
  refine (putNums_many w1.heap.size _ 0 [] [D.ino, D.kind, D.links] w1.heap.size 3 _ rfl (by omega) (by omega) (by simp) (ownV_nil _ _) (Blk.new w1 3 _)).mono ?_
  rintro e w2 ⟨v2, rfl, o2, t2, kp2⟩
  rw [List.nil_append] at o2
  have T2 : Below w1.heap.size w1 w2 := (kp_b (Nat.le_refl _) (Below.refl _ _) _).trans t2
  have z2 := z1.keep T2
  clear q0 q1 q2 q3 q4 q5 t2 kp2
  obtain ⟨q0, q1, q2, q3, q4, q5⟩ := z2.six
  have hcv := conv_any w2 a1 D.data.length c1 D.data rfl (r1.data.keep T2)
  have e1 : (encs [D.ino, D.kind, D.links]).length ≤ 12 := by
    have i1 := enc_len D.ino
    have i2 := enc_len D.kind
    have i3 := enc_len D.links
    simp only [encs, List.flatMap_cons, List.flatMap_nil, List.length_append, List.length_nil]
    omega
  have e2 : (encTs [str D.data]).length ≤ 104 := by
    have := encT_len (str D.data)
    rw [str_size] at this
    rw [encTs_one]; omega
  have hst : (str D.data).size ≤ 1048576 := by rw [str_size]; omega
  obtain ⟨S, hS⟩ : ∃ S, str D.data = S := ⟨_, rfl⟩
  rw [hS] at hcv e2 hst
  have H2 : Hid (encH D = encs [D.ino, D.kind, D.links] ++ encTs [S] ++ encs [(D.ents.length : Int)]) := by show _ = _; unfold encH; rw [hS]
  clear hS
  obtain ⟨A2, hA2⟩ : ∃ A, encs [D.ino, D.kind, D.links] = A := ⟨_, rfl⟩
  rw [hA2] at o2 e1 H2
  clear hA2
  have hw2 := T2.size
  go_wp2_with fail
  refine (putTexts_many w1.heap.size v2 A2.length A2 [S] w2.heap.size 1 _ rfl (by omega) (by omega) (by intro t ht; simp at ht; subst ht; exact hst) (by simp; omega) (o2.alloc _) (Blk.new w2 9 _)).mono ?_
  rintro e w3 ⟨v3, rfl, o3, t3, kp3⟩
  have T3 : Below w1.heap.size w1 w3 := (kp_b (Nat.le_refl _) T2 _).trans t3
  have z3 := z1.keep T3
  clear q0 q1 q2 q3 q4 q5 t3 kp3 hcv
  obtain ⟨q0, q1, q2, q3, q4, q5⟩ := z3.six
  have e3 : (A2 ++ encTs [S]).length ≤ 116 := by rw [List.length_append]; omega
  obtain ⟨A3, hA3⟩ : ∃ A, A2 ++ encTs [S] = A := ⟨_, rfl⟩
  rw [hA3] at o3 e3 H2
  have hw3 := T3.size
  go_wp2_with fail
  refine (putNums_many w1.heap.size v3 A3.length A3 [(D.ents.length : Int)] w3.heap.size 1 _ rfl (by omega) (by omega) (by simp; omega) (o3.alloc _) (Blk.new w3 3 _)).mono ?_
  rintro e w4 ⟨v4, rfl, o4, t4, kp4⟩
  have T4 : Below w1.heap.size w1 w4 := (kp_b (Nat.le_refl _) T3 _).trans t4
  have z4 := z1.keep T4
  clear q0 q1 q2 q3 q4 q5 t4 kp4
  obtain ⟨q0, q1, q2, q3, q4, q5⟩ := z4.six
  rw [← H2.out] at o4
  have e4 : (encH D).length ≤ 120 := by
    rw [H2.out, List.length_append]
    have := enc_len (D.ents.length : Int)
    rw [encs_one]
    omega
  clear o2 o3 z2 z3 T2 T3 e1 e2 e3 hA3 hst hw2 hw3
  have HE : Hid (RdP w1 a2 (eP D.ents)) := r1.ents
  have HA : Hid (RdP w1 a3 (aP D.attrs)) := r1.attrs
  obtain ⟨ents, hents⟩ : ∃ l, D.ents = l := ⟨_, rfl⟩
  obtain ⟨attrs, hattrs⟩ : ∃ l, D.attrs = l := ⟨_, rfl⟩
  have s4 := hlim.entsz
  have s5 := hlim.attrsz
  rw [hents] at HE s4 l2
  rw [hattrs] at HA s5 l3
  have HEnc : Hid (inoEnc D = encH D ++ ents.flatMap entE ++ encs [(attrs.length : Int)] ++ attrs.flatMap attE) := by show _ = _; unfold inoEnc; rw [hents, hattrs]
  obtain ⟨n2, hn2⟩ : ∃ n, ents.length = n := ⟨_, rfl⟩
  obtain ⟨n3, hn3⟩ : ∃ n, attrs.length = n := ⟨_, rfl⟩
  rw [hents, hn2] at q4
  rw [hattrs, hn3] at q5
  rw [hn2] at l2
  rw [hn3] at l3 HEnc
  have K2 : Hid (ents.length = n2) := hn2
  have K3 : Hid (attrs.length = n3) := hn3
  obtain ⟨A4, hA4⟩ : ∃ A, encH D = A := ⟨_, rfl⟩
  rw [hA4] at o4 e4 HEnc
  rw [hents, hn2]
  have KD3 : Hid (D.attrs.length = n3) := by show _ = _; rw [hattrs]; exact hn3
  clear hents hattrs hn2 hn3 hA4 hlim H2 r1
  go_wp2
  go_loopw [3, 34] (fun v i wr => ∃ (k : Nat) (acc : List Int), k ≤ n2 ∧ i = .int .i64 k ∧ OwnV w1.heap.size wr v acc.length acc ∧ Below w1.heap.size w1 wr ∧ acc.length ≤ 120 + 22 * k ∧ Hid (acc = A4 ++ (ents.take k).flatMap entE)) (fun _ i _ => n2 - (intOf i).toNat)
  case atStart => exact ⟨0, A4, Nat.zero_le _, rfl, o4, T4, by omega, by show _ = _; simp⟩
  case round =>
    obtain ⟨k, acc, hk, rfl, ho, hB, hlen, hacc⟩ := hrel
    have hbs := hB.size
    by_cases hkn : k < n2
    · have hkl : k < ents.length := by rw [K2.out]; exact hkn
      have hki : (k : Int) < (n2 : Int) := by omega
      obtain ⟨b, off, rfl, hlt, hc⟩ := RdP.lt HE.out (by intro h; have := congrArg List.length h; rw [eP_length] at this; simp at this; rw [this] at hkl; simp at hkl)
      have hx := hc k (by rw [eP_length]; exact hkl)
      rw [eP_at ents k hkl] at hx
      clear hc
      have hz14 := s4 ents[k] (List.getElem_mem hkl)
      have hnx := fm_take entE ents k hkl
      obtain ⟨z, hz⟩ : ∃ z, ents[k].1 = z := ⟨_, rfl⟩
      obtain ⟨x, hx'⟩ : ∃ u, ents[k].2 = u := ⟨_, rfl⟩
      have hee : entE ents[k] = encTs [z] ++ encs [x] := by unfold entE; rw [hz, hx', encTs_one, encs_one]
      rw [hz, hx'] at hx
      rw [hz] at hz14
      rw [hee] at hnx
      have hacc' : Hid (acc ++ encTs [z] ++ encs [x] = A4 ++ (ents.take (k + 1)).flatMap entE) := by show _ = _; rw [hacc.out, hnx]; simp only [List.append_assoc]
      have x1 : wr.cell? ⟨b, off + k * 2, none⟩ = _ := (hB.cell (by exact hlt)).trans hx.1
      have x2 : wr.cell? ⟨b, off + k * 2 + 1, none⟩ = _ := (hB.cell (by exact hlt)).trans hx.2
      dsimp only at x1 x2
      have f1 : (acc ++ encTs [z]).length ≤ acc.length + 18 := by rw [List.length_append, encTs_one]; have := encT_len z; omega
      have f2 : (acc ++ encTs [z] ++ encs [x]).length ≤ acc.length + 22 := by rw [List.length_append, encs_one]; have := enc_len x; omega
      obtain ⟨bs, hbs'⟩ : ∃ l, acc ++ encTs [z] = l := ⟨_, rfl⟩
      have Hbs : Hid (acc ++ encTs [z] = bs) := hbs'
      rw [hbs'] at hacc' f1 f2
      obtain ⟨cs, hcs'⟩ : ∃ l, bs ++ encs [x] = l := ⟨_, rfl⟩
      have Hcs : Hid (bs ++ encs [x] = cs) := hcs'
      rw [hcs'] at hacc' f2
      clear hz hx' hee hnx hkl hx hbs' hcs' hacc
      have cT := fun (W : World) (v : Value) (ad : Nat) (hW : w1.heap.size ≤ W.heap.size) (h1 : OwnV w1.heap.size W v acc.length acc) (h2 : Blk W ad 9 #[.string z]) => putTexts_many w1.heap.size v acc.length acc [z] ad 1 W rfl (by omega) (by omega) (by intro t ht; simp at ht; subst ht; omega) hW h1 h2
      have cN := fun (W : World) (v : Value) (ad : Nat) (hW : w1.heap.size ≤ W.heap.size) (h1 : OwnV w1.heap.size W v bs.length bs) (h2 : Blk W ad 3 #[.int .i64 x]) => putNums_many w1.heap.size v bs.length bs [x] ad 1 W rfl (by omega) (by omega) hW h1 h2
      go_wp2
      go_region_with (first
        | (go_at_call 55; refine (cT _ _ _ (by simp; omega) (by first | exact ((ho.alloc _).alloc _).drew | exact (((ho.alloc _).alloc _).alloc _).drew) (by first | exact (Blk.newAt (by simp)).drew | exact ((Blk.newAt (by simp)).alloc _).drew)).mono ?_; rintro e w5 ⟨v5, rfl, o5, t5, kp5⟩; have hb5 : Below w1.heap.size w1 w5 := (by first | exact (kp_b (Nat.le_refl _) (kp_b (Nat.le_refl _) hB _) _).drew.trans t5 | exact (kp_b (Nat.le_refl _) (kp_b (Nat.le_refl _) (kp_b (Nat.le_refl _) hB _) _) _).drew.trans t5); rw [Hbs.out] at o5; have e1 := kp5 wr.heap.size 35 _ (by decide) (by first | exact (Blk.newAt (by simp)).alloc _ | exact ((Blk.newAt (by simp)).alloc _).alloc _); have e2 := e1.cell 0; have e3 := e1.cell 1; simp at e2 e3; have hw5 := hb5.size)
        | (go_at_call 54; refine (cN _ v5 _ (by first | exact hw5 | (simp; omega)) (by first | exact o5 | exact o5.alloc _) (by first | exact Blk.newAt (by simp) | exact kp5 _ _ _ (by decide) (Blk.newAt (by simp)).drew | exact kp5 _ _ _ (by decide) ((Blk.newAt (by simp)).alloc _).drew)).mono ?_; rintro e w6 ⟨v6, rfl, o6, t6, kp6⟩; have hb6 : Below w1.heap.size w1 w6 := (by first | exact hb5.trans t6 | exact (kp_b (Nat.le_refl _) hb5 _).trans t6); rw [Hcs.out] at o6))
      all_goals go_wp2
      all_goals go_roundw
      all_goals first
        | (case rel => exact ⟨k + 1, cs, by omega, by go_num, o6, hb6, by omega, hacc'⟩)
        | (case measure => simp [intOf]; omega)
    · have hki : ¬ (k : Int) < (n2 : Int) := by omega
      obtain rfl : k = n2 := by omega
      have z5 := z1.keep hB
      have q5r := z5.six.c5
      rw [KD3.out] at q5r
      have hall : acc = A4 ++ ents.flatMap entE := by rw [hacc.out, List.take_of_length_le (by rw [K2.out]; omega)]
      have HEnc2 : Hid (inoEnc D = acc ++ encs [(n3 : Int)] ++ attrs.flatMap attE) := by show _ = _; rw [HEnc.out, hall]
      clear hall hacc HEnc z5
      go_wp2_with fail
      refine (putNums_many w1.heap.size _ acc.length acc [(n3 : Int)] wr.heap.size 1 _ rfl (by omega) (by omega) (by simp; omega) (ho.alloc _) (Blk.new wr 3 _)).mono ?_
      rintro e w5 ⟨v5, rfl, o5, t5, kp5⟩
      have T5 : Below w1.heap.size w1 w5 := (kp_b (Nat.le_refl _) hB _).trans t5
      have z5 := z1.keep T5
      have q5s := z5.six.c5
      rw [KD3.out] at q5s
      have e5 : (acc ++ encs [(n3 : Int)]).length ≤ 344 := by rw [List.length_append, encs_one]; have := enc_len (n3 : Int); omega
      obtain ⟨A5, hA5⟩ : ∃ A, acc ++ encs [(n3 : Int)] = A := ⟨_, rfl⟩
      rw [hA5] at o5 e5 HEnc2
      clear hA5 t5 kp5 ho hB q5r z5
      go_wp2
      go_loopw [3, 57] (fun v i wr => ∃ (k : Nat) (acc : List Int), k ≤ n3 ∧ i = .int .i64 k ∧ OwnV w1.heap.size wr v acc.length acc ∧ Below w1.heap.size w1 wr ∧ acc.length ≤ 344 + 38 * k ∧ Hid (acc = A5 ++ (attrs.take k).flatMap attE)) (fun _ i _ => n3 - (intOf i).toNat)
      case atStart => exact ⟨0, A5, Nat.zero_le _, rfl, o5, T5, by omega, by show _ = _; simp⟩
      case round =>
        obtain ⟨k, acc, hk, rfl, ho, hB, hlen, hacc⟩ := hrel
        have hbs := hB.size
        by_cases hkn : k < n3
        · have hkl : k < attrs.length := by rw [K3.out]; exact hkn
          have hki : (k : Int) < (n3 : Int) := by omega
          obtain ⟨b, off, rfl, hlt, hc⟩ := RdP.lt HA.out (by intro h; have := congrArg List.length h; rw [aP_length] at this; simp at this; rw [this] at hkl; simp at hkl)
          have hx := hc k (by rw [aP_length]; exact hkl)
          rw [aP_at attrs k hkl] at hx
          clear hc
          obtain ⟨hz14, hx16⟩ := s5 attrs[k] (List.getElem_mem hkl)
          have hnx := fm_take attE attrs k hkl
          obtain ⟨z, hz⟩ : ∃ z, attrs[k].1 = z := ⟨_, rfl⟩
          obtain ⟨x, hx'⟩ : ∃ u, attrs[k].2 = u := ⟨_, rfl⟩
          have hee : attE attrs[k] = encTs [z, x] := by unfold attE encTs; rw [hz, hx']; simp
          rw [hz, hx'] at hx
          rw [hz] at hz14
          rw [hx'] at hx16
          rw [hee] at hnx
          have hacc' : Hid (acc ++ encTs [z, x] = A5 ++ (attrs.take (k + 1)).flatMap attE) := by show _ = _; rw [hacc.out, hnx]; simp only [List.append_assoc]
          have x1 : wr.cell? ⟨b, off + k * 2, none⟩ = _ := (hB.cell (by exact hlt)).trans hx.1
          have x2 : wr.cell? ⟨b, off + k * 2 + 1, none⟩ = _ := (hB.cell (by exact hlt)).trans hx.2
          dsimp only at x1 x2
          have f1 : (acc ++ encTs [z, x]).length ≤ acc.length + 38 := by
            have i1 := encT_len z
            have i2 := encT_len x
            simp only [encTs, List.flatMap_cons, List.flatMap_nil, List.length_append, List.length_nil]
            omega
          obtain ⟨bs, hbs'⟩ : ∃ l, acc ++ encTs [z, x] = l := ⟨_, rfl⟩
          have Hbs : Hid (acc ++ encTs [z, x] = bs) := hbs'
          rw [hbs'] at hacc' f1
          clear hz hx' hee hnx hkl hx hbs' hacc
          go_wp2_with fail
          refine (putTexts_many w1.heap.size _ acc.length acc [z, x] _ 2 _ rfl (by omega) (by omega) (by intro t ht; simp at ht; rcases ht with rfl | rfl <;> omega) (by simp; omega) ((ho.alloc _).alloc _) (Blk.newAt (by simp))).mono ?_
          rintro e w6 ⟨v6, rfl, o6, t6, kp6⟩
          rw [Hbs.out] at o6
          have hb6 : Below w1.heap.size w1 w6 := (kp_b (Nat.le_refl _) (kp_b (Nat.le_refl _) hB _) _).trans t6
          go_wp2
          go_roundw
          case rel => exact ⟨k + 1, bs, by omega, by go_num, o6, hb6, by omega, hacc'⟩
          case measure => simp [intOf]; omega
        · have hki : ¬ (k : Int) < (n3 : Int) := by omega
          have hfin : inoEnc D = acc := by rw [HEnc2.out, hacc.out, List.take_of_length_le (by rw [K3.out]; omega)]
          have hne : acc.length ≠ 0 := by
            rw [← hfin]
            have := encPos D.ino
            unfold inoEnc encH
            simp only [encs, List.flatMap_cons, List.length_append]
            omega
          obtain ⟨g, c, rfl, hg, hown⟩ := ho.some hne
          go_wp2
          go_ret
          exact ⟨g, c, rfl, by omega, hown, B1.trans (hB.mono hb1)⟩

set_option maxHeartbeats 1000000 in
theorem putI_no (D : InoD) (a1 a2 a3 : Option Addr) (c1 c2 c3 : Nat) (w : World) (hm : InoSmall D) (hr : InoRd w D a1 a2 a3) (hok : inoOk D = false) :
    Calls Try.prog 15 #[inoV D a1 c1 a2 c2 a3 c3] w fun e w' => e = .returned (.slice none 0 0) ∧ Below w.heap.size w w' := by
  have B0 : Below w.heap.size w (w.alloc (.cells (inoC D a1 c1 a2 c2 a3 c3) 27)) := (Below.refl _ w).alloc (Nat.le_refl _) _
  unfold inoC at B0
  rw [show inoV D a1 c1 a2 c2 a3 c3 = .agg #[.int .i64 D.ino, .int .i64 D.kind, .int .i64 D.links, .slice a1 D.data.length c1, .slice a2 D.ents.length c2, .slice a3 D.attrs.length c3] from rfl]
  go_enter Try.func15, Try.ntmps15
  go_wp2_with fail
  refine (inoOkI D a1 a2 a3 c1 c2 c3 _ hm (hr.keep B0)).mono ?_
  rintro e w1 ⟨rfl, b1⟩
  rw [hok]
  go_wp2
  go_ret
  exact ⟨rfl, B0.trans (b1.mono B0.size)⟩
end Go.Proofs.Ytnllhpeddoaehaa
