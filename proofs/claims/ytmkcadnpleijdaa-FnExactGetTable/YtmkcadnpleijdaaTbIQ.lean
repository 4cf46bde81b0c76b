/-
  The program's GetTable.
-/
import Derived.Test.YtmkcadnpleijdaaTbOQ
import Derived.Test.YtmkcadnpleijdaaTbRQ
namespace Go.Proofs.Ytmkcadnpleijdaa
open Go.RowKit
/-- What is answered: that table, in memory of its own, or the zero one. -/
def TPost (B : Nat) (w' : World) (zs : List Int) (e : Ending) : Prop :=
  (tgOk zs = true ∧ ∃ v2, e = .returned (.tuple #[.agg #[.int .i64 ((tgM zs).1 : Int), v2], .bool true]) ∧ w'.ownsRow B 35 5 v2 (tgP zs).1.length (rwE.xv (tgP zs).1)) ∨
  (tgOk zs = false ∧ e = .returned (.tuple #[.agg #[.int .i64 0, .slice none 0 0], .bool false]))
theorem set2_gr (W : World) (X : Nat) (v0 v1 : Value) : W.grownBy ((W.setCell ⟨X, 0, none⟩ v0).setCell ⟨X, 1, none⟩ v1) (some X) := (gr_setC W X 0 v0).trans (gr_setC _ X 1 v1)
theorem rowT_set2 {B : Nat} {W : World} {H n : Nat} {v : Value} {ys : List Value} {us : Array Value} (h : W.ownsRow B 35 5 v n ys) (hx : Blk W H 26 us) (v0 v1 : Value) : ((W.setCell ⟨H, 0, none⟩ v0).setCell ⟨H, 1, none⟩ v1).ownsRow B 35 5 v n ys :=
  row_kp h (KpT.grown (ts := [35]) (set2_gr W H v0 v1) hx (by decide)) (by decide)
set_option maxHeartbeats 1000000 in
theorem rowReaderI (H : Nat) (w : World) :
    Calls Try.prog 36 #[(.func (.func 55) #[] #[.pointer (some ⟨H + 2, 0, none⟩), .pointer (some ⟨H, 0, none⟩), .pointer (some ⟨H + 1, 0, none⟩)]), (.func (.func 57) #[] #[.pointer (some ⟨H + 2, 0, none⟩), .pointer (some ⟨H, 0, none⟩), .pointer (some ⟨H + 1, 0, none⟩)])] w fun e w' => e = .returned (.func (.func 60) #[] #[.pointer (some ⟨w.heap.size, 0, none⟩), .pointer (some ⟨w.heap.size + 1, 0, none⟩)]) ∧ Blk w' w.heap.size 54 #[(.func (.func 55) #[] #[.pointer (some ⟨H + 2, 0, none⟩), .pointer (some ⟨H, 0, none⟩), .pointer (some ⟨H + 1, 0, none⟩)])] ∧ Blk w' (w.heap.size + 1) 55 #[(.func (.func 57) #[] #[.pointer (some ⟨H + 2, 0, none⟩), .pointer (some ⟨H, 0, none⟩), .pointer (some ⟨H + 1, 0, none⟩)])] ∧ Below w.heap.size w w' := by
  have hmf : ∀ (fn : Fn) (first cap : Array Value) (w : World), (Instr.makeFunc fn first cap).run Try.prog w = .ok (.func fn first cap) w := fun _ _ _ _ => rfl
  go_enter Try.func36, Try.ntmps36
  go_wp2
  go_ret
  exact ⟨rfl, (Blk.new w _ _).alloc _, Blk.newAt (by simp), ((Below.refl _ w).alloc (Nat.le_refl _) _).alloc (by simp) _⟩
set_option maxRecDepth 100000 in
set_option maxHeartbeats 8000000 in
theorem getTableI (a : Option Addr) (n cap : Nat) (zs : List Int) (w : World) (hn : zs.length = n) (hs : n ≤ 1048576) (hcap : n ≤ cap) (hr : Rd w a zs) (hb : Byt zs) :
    Calls Try.prog 11 #[.slice a n cap] w fun e w' => TPost w.heap.size w' zs e ∧ Below w.heap.size w w' := by
  have CN : Hid _ := fun (W : World) (st : Option Nat) (h : RI W (w.heap.size + 1) a n cap st) (hB : Below w.heap.size w W) => num_any (w.heap.size + 1) a n cap zs st W hn (by omega) hcap (hr.keep hB) hb h
  have CE : Hid _ := fun (W : World) (st : Option Nat) (h : RI W (w.heap.size + 1) a n cap st) => atEnd_any (w.heap.size + 1) a n cap st W (by omega) h
  have CR : Hid _ := fun (W : World) (K : Nat) (st : Option Nat) (m : Nat) (hm : m ≤ 7) (h : RL w W W (w.heap.size + 1) K a n cap st (.slice none 0 0) []) => readListI w (w.heap.size + 1) K a n cap zs st m hm W hn hs hcap hr hb h
  have HN : Hid (zs.length = n) := hn
  have B0 : Below w.heap.size w (w.alloc (.cells #[.int .i64 0, .slice none 0 0] 26)) := (Below.refl _ w).alloc (Nat.le_refl _) _
  have res0 : Blk (w.alloc (.cells #[.int .i64 0, .slice none 0 0] 26)) w.heap.size 26 #[.int .i64 0, .slice none 0 0] := Blk.new w _ _
  have hsz0 : (w.alloc (.cells #[.int .i64 0, .slice none 0 0] 26)).heap.size = w.heap.size + 1 := by simp
  clear hn hr hb
  go_enter Try.func11, Try.ntmps11
  go_wp2_with fail
  obtain ⟨W0, hW0⟩ : ∃ W, w.alloc (.cells #[.int .i64 0, .slice none 0 0] 26) = W := ⟨_, rfl⟩
  rw [hW0] at B0 res0 hsz0 ⊢
  clear hW0
  have hRd := readingOf_any a n cap W0
  rw [hsz0] at hRd
  refine hRd.mono ?_
  rintro e w1 ⟨rfl, rs1, b1⟩
  have B1 := B0.trans (b1.mono (Nat.le_succ _))
  have res1 := res0.keep (show Below W0.heap.size W0 w1 by rw [hsz0]; exact b1)
  clear res0 B0 b1 hRd hsz0
  go_wp2_with fail
  refine (CN.out w1 (some 0) rs1 B1).mono ?_
  rintro e v1 ⟨rfl, ra1, gr1⟩
  have C1 := below_but B1 gr1 (Nat.le_refl _) (by omega) (by omega)
  have res2 : Blk v1 w.heap.size 26 #[.int .i64 0, .slice none 0 0] := res1.kp (rs1.kpw gr1) (by decide)
  clear rs1 res1 B1 gr1
  obtain ⟨i1, hi1⟩ : ∃ i, (rdN zs (some 0)).1 = i := ⟨_, rfl⟩
  obtain ⟨s1, hs1⟩ : ∃ i, (rdN zs (some 0)).2 = i := ⟨_, rfl⟩
  rw [hi1]
  rw [hs1] at ra1
  have E1 : Hid ((tgM zs).1 = i1) := by show _ = _; unfold tgM; rw [hi1]
  have S1 : Hid ((tgM zs).2 = s1) := by show _ = _; unfold tgM; rw [hs1]
  clear hi1 hs1
  have hcN := CN.out v1 s1 ra1 C1
  have hn5 := rdN_le zs s1
  obtain ⟨n5, hn5'⟩ : ∃ i, (rdN zs s1).1 = i := ⟨_, rfl⟩
  obtain ⟨s5, hs5⟩ : ∃ i, (rdN zs s1).2 = i := ⟨_, rfl⟩
  rw [hn5', hs5] at hcN
  rw [hn5'] at hn5
  have E5 : Hid ((tgN zs).1 = n5) := by show _ = _; unfold tgN; rw [S1.out, hn5']
  have S5 : Hid ((tgN zs).2 = s5) := by show _ = _; unfold tgN; rw [S1.out, hs5]
  clear hn5' hs5
  obtain ⟨m5, hm5⟩ : ∃ m, min n5 7 = m := ⟨_, rfl⟩
  have hm5l : m5 ≤ 7 := by omega
  have HP : Hid (tgP zs = tgRs zs s5 m5) := by show _ = _; unfold tgP; rw [E5.out, S5.out, hm5]
  go_upto_region 3 with fail
  go_cut [8, 9] (fun u b wx => Below w.heap.size w wx ∧ Blk wx w.heap.size 26 #[.int .i64 0, .slice none 0 0] ∧ ((b = .bool true ∧ wx.ownsRow w.heap.size 35 5 u (tgP zs).1.length (rwE.xv (tgP zs).1) ∧ RI wx (w.heap.size + 1) a n cap (tgP zs).2) ∨ (u = .slice none 0 0 ∧ b = .bool false ∧ (tgP zs).2 = none)))
  case first =>
    go_wp2_with fail
    refine hcN.mono ?_
    rintro e w7 ⟨rfl, rs7, gr7⟩
    have res7 : Blk w7 w.heap.size 26 #[.int .i64 0, .slice none 0 0] := res2.kp (ra1.kpw gr7) (by decide)
    have C7 := below_but C1 gr7 (Nat.le_refl _) (by omega) (by omega)
    have hcM := rowReaderI (w.heap.size + 1) w7
    clear ra1 gr7 hcN C1 res2
    have hC7 := C7.size
    by_cases hle : n5 ≤ 7
    · have hle1 : (n5 : Int) ≤ 7 := by omega
      have hle2 : ¬ (7 : Int) < (n5 : Int) := by omega
      have hmm : m5 = n5 := by omega
      subst hmm
      go_wp2_with fail
      all_goals try (exfalso; omega)
      refine hcM.mono ?_
      rintro e w8 ⟨rfl, k0, k1, b8⟩
      have C8 := C7.trans (b8.mono hC7)
      have res8 := res7.keep b8
      have hcR := CR.out w8 w7.heap.size s5 m5 (by omega) ⟨rs7.keep b8, k0, k1, C8, by omega, KpT.refl _ _, ⟨rfl, .inl ⟨rfl, rfl⟩⟩⟩
      clear hcM k0 k1 b8 rs7 res7 C7
      go_wp2_with fail
      refine hcR.mono ?_
      rintro e w9 ⟨b9, k9, hh⟩
      have res9 := res8.kp k9 (by decide)
      clear hcR k9
      rw [← HP.out] at hh
      rcases hh with ⟨v, rfl, ho, hri⟩ | ⟨rfl, hnone⟩
      · go_wp2_with fail
        go_meet
        exact ⟨b9, res9, .inl ⟨rfl, ho, hri⟩⟩
      · go_wp2_with fail
        go_meet
        exact ⟨b9, res9, .inr ⟨rfl, rfl, hnone⟩⟩
    · have hle1 : ¬ (n5 : Int) ≤ 7 := by omega
      have hle2 : (7 : Int) < (n5 : Int) := by omega
      have hmm : m5 = 7 := by omega
      subst hmm
      go_wp2_with fail
      all_goals try (exfalso; omega)
      refine hcM.mono ?_
      rintro e w8 ⟨rfl, k0, k1, b8⟩
      have C8 := C7.trans (b8.mono hC7)
      have res8 := res7.keep b8
      have hcR := CR.out w8 w7.heap.size s5 7 (by omega) ⟨rs7.keep b8, k0, k1, C8, by omega, KpT.refl _ _, ⟨rfl, .inl ⟨rfl, rfl⟩⟩⟩
      clear hcM k0 k1 b8 rs7 res7 C7
      go_wp2_with fail
      refine hcR.mono ?_
      rintro e w9 ⟨b9, k9, hh⟩
      have res9 := res8.kp k9 (by decide)
      clear hcR k9
      rw [← HP.out] at hh
      rcases hh with ⟨v, rfl, ho, hri⟩ | ⟨rfl, hnone⟩
      · go_wp2_with fail
        go_meet
        exact ⟨b9, res9, .inl ⟨rfl, ho, hri⟩⟩
      · go_wp2_with fail
        go_meet
        exact ⟨b9, res9, .inr ⟨rfl, rfl, hnone⟩⟩
  case rest =>
  obtain ⟨b7, res7, hcase⟩ := hcut
  obtain ⟨w7, hwc⟩ : ∃ W, W = wc := ⟨_, rfl⟩
  subst hwc
  clear hcN ra1 C1 res2 hm5 hm5l HP CR
  have hpl := tgP_len zs
  rcases hcase with ⟨rfl, ho, hri⟩ | ⟨rfl, rfl, hnone⟩
  · obtain ⟨a2, c2, hv2, rd2⟩ := rowR_form ho
    subst hv2
    have hnm : ∀ r ∈ (tgP zs).1, r.name.size ≤ 1048576 := fun r hr => by
      have := tgRs_nm zs (tgN zs).2 (min (tgN zs).1 7) r hr
      rw [HN.out] at this
      omega
    have hgo : Hid (tgOk zs = (decide ((tgP zs).2 = some n) && tbB (i1 : Int) (tgP zs).1)) := by
      show _ = _
      unfold tgOk
      rw [E1.out, HN.out]
    obtain ⟨ps, hps⟩ : ∃ l, (tgP zs).1 = l := ⟨_, rfl⟩
    obtain ⟨st, hst⟩ : ∃ l, (tgP zs).2 = l := ⟨_, rfl⟩
    have HPS : Hid ((tgP zs).1 = ps) := hps
    rw [hps] at ho rd2 hnm hgo hpl ⊢
    rw [hst] at hri hgo
    clear hps hst
    have bX : Below w7.heap.size w7 (w7.alloc (.cells #[.int .i64 (i1 : Int), .slice a2 ps.length c2] 26)) := (Below.refl _ w7).alloc (Nat.le_refl _) _
    have bx := Blk.new w7 26 #[.int .i64 (i1 : Int), .slice a2 ps.length c2]
    have hX : w.heap.size < w7.heap.size := res7.lt
    have hcE := CE.out (w7.alloc (.cells #[.int .i64 (i1 : Int), .slice a2 ps.length c2] 26)) st (hri.keep bX)
    have hcI := tableOkI (i1 : Int) a2 ps.length c2 ps (w7.alloc (.cells #[.int .i64 (i1 : Int), .slice a2 ps.length c2] 26)) ⟨rfl, by omega, hnm, rd2.keep bX⟩
    have ho8 := World.ownsRow.alloc ho (.cells #[.int .i64 (i1 : Int), .slice a2 ps.length c2] 26)
    have res8 := res7.alloc (.cells #[.int .i64 (i1 : Int), .slice a2 ps.length c2] 26)
    have B8 := b7.trans (bX.mono b7.size)
    clear CN CE ho rd2 hri res7 b7 bX hnm
    generalize hdn : decide (st = some n) = dn at hcE hgo
    clear hdn
    go_upto_region 5 with fail
    obtain ⟨X, hXe⟩ : ∃ X, w7.heap.size = X := ⟨_, rfl⟩
    obtain ⟨W8, hW8⟩ : ∃ W, w7.alloc (.cells #[.int .i64 (i1 : Int), .slice a2 ps.length c2] 26) = W := ⟨_, rfl⟩
    rw [hXe] at bx hX ⊢
    rw [hW8] at bx hcE hcI ho8 res8 B8 ⊢
    clear hW8 hXe
    obtain ⟨x0, x1⟩ := bx.duo
    go_cut [43] (fun s wx => s = .bool (!tgOk zs) ∧ Below W8.heap.size W8 wx)
    case first =>
      generalize tbB (i1 : Int) ps = ok at hcI hgo
      cases dn with
      | false =>
        go_wp2_with fail
        refine hcE.mono ?_
        rintro e w16 ⟨rfl, hw⟩
        obtain rfl := hw.symm
        go_wp2_with fail
        go_meet
        exact ⟨by rw [hgo.out]; rfl, Below.refl _ _⟩
      | true =>
        go_wp2_with fail
        refine hcE.mono ?_
        rintro e w16 ⟨rfl, hw⟩
        obtain rfl := hw.symm
        go_wp2_with fail
        (with_reducible refine hcI.mono ?_)
        rintro e w17 ⟨rfl, b17⟩
        go_wp2_with fail
        go_meet
        exact ⟨by rw [hgo.out, Bool.true_and], b17⟩
    case rest =>
    obtain ⟨rfl, b16⟩ := hcut
    obtain ⟨w16, hwc⟩ : ∃ W, W = wc := ⟨_, rfl⟩
    subst hwc
    have ho9 : w16.ownsRow w.heap.size 35 5 (.slice a2 ps.length c2) ps.length (rwE.xv ps) := row_kp ho8 (KpT.below b16 [35]) (by decide)
    have res9 := res8.keep b16
    have bx9 := bx.keep b16
    have B9 := B8.trans (b16.mono B8.size)
    clear x0 x1 hcE hcI ho8 res8 bx B8 b16 hgo
    have fz0 := res9.frozen 0
    have fz1 := res9.frozen 1
    obtain ⟨t0, t1⟩ := res9.duo
    cases hok : tgOk zs with
    | false =>
      have HG : Hid (Blk w16 w.heap.size 26 #[.int .i64 0, .slice none 0 0] ∧ Below w.heap.size w w16) := ⟨res9, B9⟩
      have HO : Hid _ := hok
      clear hok res9 B9 bx9 ho9
      go_wp2
      have zf := (HG.out.1.set 0 (.int .i64 0)).set 1 (.slice none 0 0)
      have dd0 := zf.cell 0
      have dd1 := zf.cell 1
      simp at dd0 dd1
      refine bodyPost_ret (v := .tuple #[.agg #[.int .i64 0, .slice none 0 0], .bool false]) (by simp [results, Try.f11, go_sem, dd0, dd1]) rfl ?_
      exact ⟨.inr ⟨HO.out, rfl⟩, (HG.out.2.setCell (p := ⟨w.heap.size, 0, none⟩) (Nat.le_refl _) _).setCell (p := ⟨w.heap.size, 1, none⟩) (Nat.le_refl _) _⟩
    | true =>
      obtain ⟨x0, x1⟩ := bx9.duo
      have HF : Hid _ := rowT_set2 ho9 res9 (.int .i64 (i1 : Int)) (.slice a2 ps.length c2)
      have HG : Hid (Blk w16 w.heap.size 26 #[.int .i64 0, .slice none 0 0] ∧ Below w.heap.size w w16) := ⟨res9, B9⟩
      have HO : Hid _ := hok
      clear hok res9 B9 bx9 ho9
      go_wp2
      have zf := (HG.out.1.set 0 (.int .i64 (i1 : Int))).set 1 (.slice a2 ps.length c2)
      have dd0 := zf.cell 0
      have dd1 := zf.cell 1
      simp at dd0 dd1
      refine bodyPost_ret (v := .tuple #[.agg #[.int .i64 (i1 : Int), .slice a2 ps.length c2], .bool true]) (by simp [results, Try.f11, go_sem, dd0, dd1]) rfl ?_
      refine ⟨.inl ⟨HO.out, _, by rw [E1.out], ?_⟩, (HG.out.2.setCell (p := ⟨w.heap.size, 0, none⟩) (Nat.le_refl _) _).setCell (p := ⟨w.heap.size, 1, none⟩) (Nat.le_refl _) _⟩
      rw [HPS.out]
      exact HF.out
  · have hok : tgOk zs = false := by unfold tgOk; rw [hnone]; rfl
    have bX : Below w7.heap.size w7 (w7.alloc (.cells #[.int .i64 (i1 : Int), .slice none 0 0] 26)) := (Below.refl _ w7).alloc (Nat.le_refl _) _
    have HO : Hid _ := hok
    have res8 := res7.alloc (.cells #[.int .i64 (i1 : Int), .slice none 0 0] 26)
    have fz0 := res8.frozen 0
    have fz1 := res8.frozen 1
    obtain ⟨t0, t1⟩ := res8.duo
    have HG : Hid (Blk (w7.alloc (.cells #[.int .i64 (i1 : Int), .slice none 0 0] 26)) w.heap.size 26 #[.int .i64 0, .slice none 0 0] ∧ Below w.heap.size w (w7.alloc (.cells #[.int .i64 (i1 : Int), .slice none 0 0] 26))) := ⟨res8, b7.trans (bX.mono b7.size)⟩
    clear hok hnone bX res7 res8 b7 CN CE
    go_upto_region 6 with fail
    obtain ⟨W8, hW8⟩ : ∃ W, w7.alloc (.cells #[.int .i64 (i1 : Int), .slice none 0 0] 26) = W := ⟨_, rfl⟩
    rw [hW8] at HG t0 t1 fz0 fz1 ⊢
    clear hW8
    go_wp2
    have zf := (HG.out.1.set 0 (.int .i64 0)).set 1 (.slice none 0 0)
    have dd0 := zf.cell 0
    have dd1 := zf.cell 1
    simp at dd0 dd1
    refine bodyPost_ret (v := .tuple #[.agg #[.int .i64 0, .slice none 0 0], .bool false]) (by simp [results, Try.f11, go_sem, dd0, dd1]) rfl ?_
    exact ⟨.inr ⟨HO.out, rfl⟩, (HG.out.2.setCell (p := ⟨w.heap.size, 0, none⟩) (Nat.le_refl _) _).setCell (p := ⟨w.heap.size, 1, none⟩) (Nat.le_refl _) _⟩
end Go.Proofs.Ytmkcadnpleijdaa

