/-
  Joined: DvSP, LogW, LogC.
-/
import Derived.Test.YtpejfkgbfdkdnaaJ20B
namespace Go.Proofs.Ytpejfkgbfdkdnaa
section
open Go.RowKit
theorem progAt_len (ds : List BkD) (k : Nat) (zs : List Int) : (progAt ds k zs).length = ds.length := by
  unfold progAt
  split <;> simp
set_option maxRecDepth 100000 in
set_option maxHeartbeats 16000000 in
theorem devPrS (a : Option Addr) (n cap : Nat) (bs : List BkR) (ops : Int) (fa : Option Addr) (m fc : Nat) (fs : List FtD) (down : Bool) (x : Int) (gb nb cb : Nat) (zs : List Int) (w : World) (ht : CR w a n bs) (hf : FR w fa m fs) (hz : zs.length = nb) (hnb : nb ≤ cb ∧ nb ≤ 1048576) (hrz : Rd w (some ⟨gb, 0, none⟩) zs) :
    Calls Try.prog 75 #[.agg #[.slice a n cap, .int .i64 ops, .slice fa m fc, .bool down], .int .i64 x, .slice (some ⟨gb, 0, none⟩) nb cb] w (DvCA w ⟨outDs (evCode (bs.map BkR.D) ops fs down (codeP true (bs.map BkR.D) x nb)) (faD ops fs) (bs.map BkR.D) (progAt (bs.map BkR.D) x.toNat zs) (badD (bs.map BkR.D) x.toNat) (fun t => progAt (bs.map BkR.D) x.toNat (zs.take t.toNat)), outOps (evCode (bs.map BkR.D) ops fs down (codeP true (bs.map BkR.D) x nb)) ops, fs, outDown (evCode (bs.map BkR.D) ops fs down (codeP true (bs.map BkR.D) x nb)) (faD ops fs) down⟩ (outCode (evCode (bs.map BkR.D) ops fs down (codeP true (bs.map BkR.D) x nb)) (faD ops fs))) := by
  have hnn := ht.n
  have hmm := hf.tot
  have B0 : Below w.heap.size w ((w.alloc (.cells #[.slice a n cap, .int .i64 ops, .slice fa m fc, .bool down] 29)).alloc (.cells #[.slice none 0 0, .int .i64 0, .slice none 0 0, .bool false] 29)) := ((Below.refl _ w).alloc (Nat.le_refl _) _).alloc (by simp) _
  have z0 := (Blk.new w 29 #[.slice a n cap, .int .i64 ops, .slice fa m fc, .bool down]).alloc (.cells #[.slice none 0 0, .int .i64 0, .slice none 0 0, .bool false] 29)
  have z1 := Blk.new (w.alloc (.cells #[.slice a n cap, .int .i64 ops, .slice fa m fc, .bool down] 29)) 29 #[.slice none 0 0, .int .i64 0, .slice none 0 0, .bool false]
  simp only [World.size_alloc] at z1
  have hws : ((w.alloc (.cells #[.slice a n cap, .int .i64 ops, .slice fa m fc, .bool down] 29)).alloc (.cells #[.slice none 0 0, .int .i64 0, .slice none 0 0, .bool false] 29)).heap.size = w.heap.size + 2 := by simp
  obtain ⟨H, hH⟩ : ∃ H, w.heap.size = H := ⟨_, rfl⟩
  have HH : Hid (w.heap.size = H) := hH
  rw [hH] at z0 z1 hws
  obtain ⟨CD, hCD⟩ : ∃ c, evCode (bs.map BkR.D) ops fs down (codeP true (bs.map BkR.D) x nb) = c := ⟨_, rfl⟩
  rw [hCD]
  have HCD : Hid (evCode (bs.map BkR.D) ops fs down (codeP true (bs.map BkR.D) x nb) = CD) := hCD
  generalize hGP : DvCA w ⟨outDs CD (faD ops fs) (bs.map BkR.D) (progAt (bs.map BkR.D) x.toNat zs) (badD (bs.map BkR.D) x.toNat) (fun t => progAt (bs.map BkR.D) x.toNat (zs.take t.toNat)), outOps CD ops, fs, outDown CD (faD ops fs) down⟩ (outCode CD (faD ops fs)) = P
  have HGP : Hid _ := hGP
  clear hGP hCD
  go_enter Try.func75, Try.ntmps75
  have x0 := z0.cell 0
  have x1 := z0.cell 1
  have x2 := z0.cell 2
  have x3 := z0.cell 3
  simp at x0 x1 x2 x3
  go_upto_region 1 with fail
  obtain ⟨W0, hW0⟩ : ∃ W, (w.alloc (.cells #[.slice a n cap, .int .i64 ops, .slice fa m fc, .bool down] 29)).alloc (.cells #[.slice none 0 0, .int .i64 0, .slice none 0 0, .bool false] 29) = W := ⟨_, rfl⟩
  rw [hW0] at B0 z0 z1 hws x0 x1 x2 x3 ⊢
  try rw [hH]
  clear hW0 hH
  have HW : Hid _ := hws
  have HB0 : Hid (Below w.heap.size w W0) := B0
  have HT : Hid (∀ W : World, Below W0.heap.size W0 W → CR W a n bs ∧ FR W fa m fs) := fun W h => ⟨(ht.keep B0).keep h, (hf.keep B0).keep h⟩
  have HZ0 : Hid (Blk W0 H 29 #[.slice a n cap, .int .i64 ops, .slice fa m fc, .bool down]) := z0
  have HZ1 : Hid (Blk W0 (H + 1) 29 #[.slice none 0 0, .int .i64 0, .slice none 0 0, .bool false]) := z1
  have hln : Hid (bs.length = n) := ht.len
  have HRZ : Hid (∀ W : World, Below W0.heap.size W0 W → Rd W (some ⟨gb, 0, none⟩) zs) := fun W h => (hrz.keep B0).keep h
  clear ht hf B0 z0 z1 hrz
  go_wp2_with fail
  refine (copyDevS a n cap bs ops fa m fc fs down W0 (HT.out _ (Below.refl _ _)).1 (HT.out _ (Below.refl _ _)).2).mono ?_
  rintro e w1 ⟨a1, n1, c1, fa1, m1, fc1, qs, rfl, hd, hl, b1⟩
  dsimp only at hd ⊢
  clear x0 x1 x2 x3
  have hn1 : n1 = n := by rw [← hl, hd.bs.len]; simp [hln.out]
  subst hn1
  have zX := Blk.new w1 29 #[.slice a1 n1 c1, .int .i64 ops, .slice fa1 m1 fc1, .bool down]
  have b2 : Below w1.heap.size w1 (w1.alloc (.cells #[.slice a1 n1 c1, .int .i64 ops, .slice fa1 m1 fc1, .bool down] 29)) := (Below.refl _ _).alloc (Nat.le_refl _) _
  have hd2 := hd.keep b2
  have hlt : Hid (∀ g ∈ fpDv a1 n1 c1 fa1 m1 fc1 qs, g < w1.heap.size) := hd.lt
  have hW1 : W0.heap.size ≤ w1.heap.size := b1.size
  have B2 := b1.trans (b2.mono b1.size)
  obtain ⟨X, hX⟩ : ∃ X, w1.heap.size = X := ⟨_, rfl⟩
  rw [hX] at zX hlt hW1
  go_upto_region 2 with fail
  obtain ⟨W2, hW2⟩ : ∃ W, w1.alloc (.cells #[.slice a1 n1 c1, .int .i64 ops, .slice fa1 m1 fc1, .bool down] 29) = W := ⟨_, rfl⟩
  rw [hW2] at zX hd2 B2 b2 ⊢
  try rw [hX]
  clear hW2 b2 b1 hd hX
  have BD : Below W0.heap.size W0 W2.drew := B2.drew
  have hall : Hid (∀ W : World, Below W2.drew.heap.size W2.drew W → W.cell? ⟨H, 0, none⟩ = some (.slice a n1 cap) ∧ W.cell? ⟨H, 1, none⟩ = some (.int .i64 ops) ∧ W.cell? ⟨H, 2, none⟩ = some (.slice fa m fc) ∧ W.cell? ⟨H, 3, none⟩ = some (.bool down)) := fun W hW => by
    have := Blk.keep HZ0.out (BD.trans (hW.mono BD.size))
    exact ⟨this.cell 0, this.cell 1, this.cell 2, this.cell 3⟩
  have HBD : Hid _ := BD
  have hcE := l10ProgramS a n1 cap bs x (some ⟨gb, 0, none⟩) nb cb W2.drew hnb.2 (HT.out _ BD).1
  have HMY : Hid (∀ W : World, Below W0.heap.size W0 W → ∀ c : Int, Calls Try.prog 88 #[.agg #[.slice a n1 cap, .int .i64 ops, .slice fa m fc, .bool down], .int .i64 c] W fun e w' => e = .returned (.int .i64 (evCode (bs.map BkR.D) ops fs down c)) ∧ Below W.heap.size W w') := fun W h c => l11MayS a n1 cap bs ops fa m fc fs down c W (HT.out _ h).1 (HT.out _ h).2
  have hce : evCode (bs.map BkR.D) ops fs down (codeP (chipOkB (bs.map BkR.D)) (bs.map BkR.D) x nb) = CD := by rw [← HCD.out]; exact evCode_ok _ _ _ _ (fun b => codeP b (bs.map BkR.D) x nb)
  obtain ⟨cc, hcc⟩ : ∃ cc, codeP (chipOkB (bs.map BkR.D)) (bs.map BkR.D) x nb = cc := ⟨_, rfl⟩
  rw [hcc] at hcE hce
  have HCE : Hid _ := hce
  obtain ⟨s0, s1, s2, s3⟩ := hall.out W2.drew (Below.refl _ _)
  clear BD hcc hce
  refine wp_region_noPanic ?_
  refine wp_region_last (fun W : World => W.cell? ⟨H, 0, none⟩ = some (.slice a n1 cap) ∧ W.cell? ⟨H, 1, none⟩ = some (.int .i64 ops) ∧ W.cell? ⟨H, 2, none⟩ = some (.slice fa m fc) ∧ W.cell? ⟨H, 3, none⟩ = some (.bool down)) 7 (by kernel_rfl) (by kernel_rfl) (by go_keep) 7 (by kernel_rfl) (fun hS => ?_)
  refine wpAnyH_take (i := 0) (v := ?gv1) rfl (by kernel_rfl) (by kernel_rfl) (by kernel_rfl) (fun _ _ _ h => h) (Or.inl ⟨by kernel_rfl, ?gy1⟩) (by assumption) ?gr1
  case gy1 => (intro w' hSw; (try dsimp only at hSw); go_simp; (try with_reducible rfl))
  try simp only [Act.put, List.setIfInBounds_toArray, List.set_cons_zero, List.set_cons_succ, List.getElem_toArray, List.getElem_cons_zero]
  refine wpAnyH_take (i := 1) (v := ?gv2) rfl (by kernel_rfl) (by kernel_rfl) (by kernel_rfl) (fun _ _ _ h => h) (Or.inl ⟨by kernel_rfl, ?gy2⟩) (by assumption) ?gr2
  case gy2 => (intro w' hSw; (try dsimp only at hSw); go_simp; (try with_reducible rfl))
  try simp only [Act.put, List.setIfInBounds_toArray, List.set_cons_zero, List.set_cons_succ, List.getElem_toArray, List.getElem_cons_succ, List.getElem_cons_zero]
  refine wpAnyH_take (i := 2) (v := ?gv3) rfl (by kernel_rfl) (by kernel_rfl) (by kernel_rfl) (fun _ _ _ h => h) (Or.inl ⟨by kernel_rfl, ?gy3⟩) (by assumption) ?gr3
  case gy3 => (intro w' hSw; (try dsimp only at hSw); go_simp; (try with_reducible rfl))
  try simp only [Act.put, List.setIfInBounds_toArray, List.set_cons_zero, List.set_cons_succ, List.getElem_toArray, List.getElem_cons_succ, List.getElem_cons_zero]
  refine wpAnyH_take (i := 3) (v := ?gv4) rfl (by kernel_rfl) (by kernel_rfl) (by kernel_rfl) (fun _ _ _ h => h) (Or.inl ⟨by kernel_rfl, ?gy4⟩) (by assumption) ?gr4
  case gy4 => (intro w' hSw; (try dsimp only at hSw); go_simp; (try with_reducible rfl))
  try simp only [Act.put, List.setIfInBounds_toArray, List.set_cons_zero, List.set_cons_succ, List.getElem_toArray, List.getElem_cons_succ, List.getElem_cons_zero]
  refine wpAnyH_take (i := 4) (v := ?gv5) rfl (by kernel_rfl) (by kernel_rfl) (by kernel_rfl) (fun _ _ _ h => h) (Or.inl ⟨by kernel_rfl, ?gy5⟩) (by assumption) ?gr5
  case gy5 => (intro w' hSw; (try dsimp only at hSw); go_simp; (try with_reducible rfl))
  try simp only [Act.put, List.setIfInBounds_toArray, List.set_cons_zero, List.set_cons_succ, List.getElem_toArray, List.getElem_cons_succ, List.getElem_cons_zero]
  refine wpAnyH_ready (rs := [5]) (by kernel_rfl) (by simp) ?_
  refine AllReadyH.cons rfl (fun K hK => ?_) AllReadyH.nil
  go_simp
  (with_reducible refine hcE.mono ?_)
  rintro e W3 ⟨rfl, b3⟩
  have HB3 : Hid (Below W2.drew.heap.size W2.drew W3) := b3
  have hcM := HMY.out W3 (HBD.out.trans (b3.mono HBD.out.size)) cc
  rw [HCE.out] at hcM
  clear b3
  clear hS
  try dsimp only
  refine Shut.out hK _ _ (hall.out W3 HB3.out) (fun hS => ?_)
  try simp only [Act.put, List.setIfInBounds_toArray, List.set_cons_zero, List.set_cons_succ, List.getElem_toArray, List.getElem_cons_succ, List.getElem_cons_zero]
  refine wpAnyH_ready (rs := [6]) (by kernel_rfl) (by simp) ?_
  refine AllReadyH.cons rfl (fun K hK => ?_) AllReadyH.nil
  go_simp
  (with_reducible refine hcM.mono ?_)
  rintro e W4 ⟨rfl, b4⟩
  have HB4 : Hid (Below W2.drew.heap.size W2.drew W4) := HB3.out.trans (b4.mono HB3.out.size)
  clear b4
  clear hS
  try dsimp only
  refine Shut.out hK _ _ (hall.out W4 HB4.out) (fun hS => ?_)
  try simp only [Act.put, List.setIfInBounds_toArray, List.set_cons_zero, List.set_cons_succ, List.getElem_toArray, List.getElem_cons_succ, List.getElem_cons_zero]
  refine wpAnyH_done (by kernel_rfl) ?_ _
  refine wpOp_last rfl (fun K hK => ?_)
  clear hS
  go_simp
  refine Shut.out hK _ _ (NoPanic.normal ?_)
  have b4 : Below W2.heap.size W2 W4 := (Below.refl _ _).drew.trans HB4.out
  have hd4 := hd2.keep b4
  have zX4 := zX.keep b4
  have B4 := B2.trans (b4.mono B2.size)
  have zr4 := Blk.keep HZ1.out B4
  have zH4 := Blk.keep HZ0.out B4
  clear s0 s1 s2 s3 hcE hcM HMY HCE HB3 HB4 hall HBD hd2 zX b4 B2
  by_cases hc0 : CD = 0
  · subst hc0
    obtain ⟨hdv, hdn, hop1, hcz⟩ := evCode_zero HCD.out
    obtain ⟨hok, hop0, hfok⟩ := devB_ops hdv
    subst hdn
    have h400 : nb ≤ 400 := by
      unfold codeP at hcz
      split at hcz <;> omega
    have hmy : mayD true (bs.map BkR.D) x (decide (nextD (bs.map BkR.D) x = 8)) = 0 := by
      unfold codeP at hcz
      rw [if_neg (by omega)] at hcz
      exact hcz
    obtain ⟨_, k, r, rfl, hrk, hrb, _⟩ := code_zero (bs := bs) hmy
    have hkn : k < n1 := by have := (List.getElem?_eq_some_iff.1 hrk).1; have := hln.out; omega
    have hki : (k : Int) < (n1 : Int) := by omega
    have hkk : ¬ (k : Int) < 0 := by omega
    obtain ⟨t, htk, htr⟩ := same_at (f := BkR.D) hd4.bs.D hrk
    have HRK : Hid (bs[k]? = some r ∧ chipOkB (bs.map BkR.D) = true ∧ codeP true (bs.map BkR.D) (k : Int) nb = 0) := ⟨hrk, hok, hcz⟩
    have HMY : Hid (∀ M : Nat, M ≤ 400 → codeP true (bs.map BkR.D) (k : Int) M = 0) := fun M hM => by unfold codeP; rw [if_neg (by omega)]; exact hmy
    have HTK : Hid (qs[k]? = some t ∧ t.D = r.D) := ⟨htk, htr⟩
    obtain ⟨g, ha1⟩ : ∃ g, a1 = some ⟨g, 0, none⟩ := by
      rcases (show OwnE bkE 39 W4 (.slice a1 n1 c1) qs.length qs from hd4.bs.own.1).cases with ⟨_, _, h0⟩ | ⟨g, c, h0, _⟩
      · rw [h0] at htk; simp at htk
      · simp only [Value.slice.injEq] at h0; exact ⟨g, h0.1⟩
    subst ha1
    have hgX : g < X := hlt.out g (fpDv_bs (fpBs_row rfl))
    have hwr : IntKind.i64.wrap (ops + 1) = ops + 1 := wrap_small _ (by omega) (by omega)
    have hcF := faultAtS a n1 cap ops fa m fc fs false W4 (HT.out _ B4).2
    unfold FaA at hcF
    have h0 := zH4.cell 0
    have h1 := zH4.cell 1
    have h2 := zH4.cell 2
    have h3 := zH4.cell 3
    simp at h0 h1 h2 h3
    have HKP : Hid (∀ t, faD ops fs = some t → 0 ≤ t.kp ∧ t.kp ≤ 400) := fun t ht => by
      have h1 := hfok t (List.mem_of_find?_eq_some ht)
      unfold ftOk at h1
      simp at h1
      omega
    clear htk htr hrk hcz hdv hfok hok hmy
    go_wp2_with fail
    refine hcF.mono ?_
    rintro e w5 ⟨rfl, b5⟩
    obtain ⟨o, hoo⟩ : ∃ o, faD ops fs = o := ⟨_, rfl⟩
    rw [hoo] at HGP HKP ⊢
    obtain ⟨ft, hft⟩ : ∃ t, (o.getD ftZ).tm = t := ⟨_, rfl⟩
    obtain ⟨fk, hfk⟩ : ∃ t, (o.getD ftZ).kd = t := ⟨_, rfl⟩
    obtain ⟨fp, hfp⟩ : ∃ t, (o.getD ftZ).kp = t := ⟨_, rfl⟩
    obtain ⟨bd, hbd⟩ : ∃ t, o.isSome = t := ⟨_, rfl⟩
    rw [hft, hfk, hfp, hbd]
    have HO : Hid (o = if bd then some ⟨ft, fk, fp⟩ else none) := by
      show _ = _
      subst hft hfk hfp hbd
      cases o <;> rfl
    have zT := Blk.new w5 93 #[.int .i64 ft, .int .i64 fk, .int .i64 fp]
    have b6 : Below w5.heap.size w5 (w5.alloc (.cells #[.int .i64 ft, .int .i64 fk, .int .i64 fp] 93)) := (Below.refl _ _).alloc (Nat.le_refl _) _
    have b46 := b5.trans (b6.mono b5.size)
    have hd6 := hd4.keep b46
    have zX6 := zX4.keep b46
    have zr6 := zr4.keep b46
    have zH6 := zH4.keep b46
    have B6 := B4.trans (b46.mono B4.size)
    have hXT : X < w5.heap.size := (zX4.keep b5).lt
    obtain ⟨T, hT⟩ : ∃ T, w5.heap.size = T := ⟨_, rfl⟩
    rw [hT] at zT hXT
    clear hcF h0 h1 h2 h3 hd4 zX4 zr4 zH4 B4 b5 hoo hft hfk hfp hbd
    go_upto_region 6 with fail
    obtain ⟨W6, hW6⟩ : ∃ W, w5.alloc (.cells #[.int .i64 ft, .int .i64 fk, .int .i64 fp] 93) = W := ⟨_, rfl⟩
    rw [hW6] at zT hd6 zX6 zr6 zH6 B6 ⊢
    try rw [hT]
    clear hW6 b6 b46 hT
    have u1 := zX6.cell 1
    have g1 := zX6.frozen 1
    have h1 := zH6.cell 1
    simp at u1 h1
    have zX7 := zX6.set 1 (.int .i64 (ops + 1))
    have hXn : w.heap.size ≤ X ∧ H + 1 < X := by have := HW.out; have := HH.out; omega
    have zr7 := zr6.other (B' := X) (by omega) 1 (.int .i64 (ops + 1))
    have zH7 := zH6.other (B' := X) (by omega) 1 (.int .i64 (ops + 1))
    have zT7 := zT.other (B' := X) (by omega) 1 (.int .i64 (ops + 1))
    have hd7 := hd6.svs (sv_one W6 X 1 (.int .i64 (ops + 1))) (fun j hj hf => by simp at hf; have := hlt.out j hj; omega)
    have B7 : Below W0.heap.size W0 (W6.setCell ⟨X, 1, none⟩ (.int .i64 (ops + 1))) := B6.setCell (p := ⟨X, 1, none⟩) hW1 _
    clear hd6 zX6 zr6 zH6 zT B6
    go_upto_region 7 with fail
    obtain ⟨W7, hW7⟩ : ∃ W, W6.setCell ⟨X, 1, none⟩ (.int .i64 (ops + 1)) = W := ⟨_, rfl⟩
    rw [hW7] at zX7 zr7 zH7 zT7 hd7 B7 ⊢
    clear hW7 u1 g1 h1
    simp at zX7
    have c1' := zT7.cell 1
    simp at c1'
    by_cases hbad : bd = true ∧ fk = 1
    · obtain ⟨rfl, rfl⟩ := hbad
      have hOw : OwnE bkE 39 W7 (.slice (some ⟨g, 0, none⟩) n1 c1) n1 qs := by have := hd7.bs.own.1; rw [hl] at this; exact this
      have v0 := hOw.cell k 2 t HTK.out.1 (by decide)
      have v1 : W7.cell? ⟨g, k * 3 + 2, none⟩ = some (.bool t.bad) := v0
      have vf := hOw.frozen (k * 3 + 2)
      have u0 := zX7.cell 0
      simp at u0
      have zX8 := zX7.other (B' := g) (by omega) (k * 3 + 2) (.bool true)
      have hHg : H + 1 < g := by have := hd7.bs.new g (fpBs_row rfl); have := HW.out; have := HH.out; omega
      have zr8 := zr7.other (B' := g) (by omega) (k * 3 + 2) (.bool true)
      have hd8 := hd7.bad hl HTK.out.1
      have B8 : Below W0.heap.size W0 (W7.setCell ⟨g, k * 3 + 2, none⟩ (.bool true)) := B7.setCell (p := ⟨g, k * 3 + 2, none⟩) (hd7.bs.new g (fpBs_row rfl)) _
      clear hOw v0 hd7 zX7 zr7 zH7 zT7 B7
      go_upto_region 9 with fail
      obtain ⟨W8, hW8⟩ : ∃ W, W7.setCell ⟨g, k * 3 + 2, none⟩ (.bool true) = W := ⟨_, rfl⟩
      rw [hW8] at zX8 zr8 hd8 B8 ⊢
      clear hW8 v1 vf u0 c1'
      have r0 := zr8.cell 0
      have r1 := zr8.cell 1
      have r2 := zr8.cell 2
      have r3 := zr8.cell 3
      have f0 := zr8.frozen 0
      have f1 := zr8.frozen 1
      have f2 := zr8.frozen 2
      have f3 := zr8.frozen 3
      have zf := (((zr8.set 0 (.slice (some ⟨g, 0, none⟩) n1 c1)).set 1 (.int .i64 (ops + 1))).set 2 (.slice fa1 m1 fc1)).set 3 (.bool false)
      have d0 := zf.cell 0
      have d1 := zf.cell 1
      have d2 := zf.cell 2
      have d3 := zf.cell 3
      have y0 := zX8.cell 0
      have y1 := zX8.cell 1
      have y2 := zX8.cell 2
      have y3 := zX8.cell 3
      simp at r0 r1 r2 r3 d0 d1 d2 d3 y0 y1 y2 y3
      have HN : Hid _ := And.intro hd8 (And.intro (show (qs.set k ⟨t.a, t.cap, t.ps, t.wear, true⟩).length = n1 by rw [List.length_set]; exact hl) B8)
      clear zf hd8 zX8 zr8 B8
      go_wp2
      refine bodyPost_ret (v := .tuple #[.agg #[.slice (some ⟨g, 0, none⟩) n1 c1, .int .i64 (ops + 1), .slice fa1 m1 fc1, .bool false], .int .i64 2]) (by simp [results, Try.f75, go_sem, d0, d1, d2, d3]) rfl ?_
      obtain ⟨hnd, hl, hbel⟩ := HN.out
      rw [← HGP.out]
      have hos := HO.out
      simp only [if_true] at hos
      have hbe : badD (bs.map BkR.D) (k : Int).toNat = (bs.map BkR.D).set k ⟨t.ps.map PgR.D, t.wear, true⟩ := by
        have h5 := HTK.out.2
        unfold BkR.D at h5
        simp only [BkD.mk.injEq] at h5
        unfold badD
        rw [Int.toNat_natCast, List.getElem?_map, HRK.out.1]
        simp only [Option.map_some, BkR.D]
        rw [h5.1, h5.2.1]
      rw [hos, show outDs 0 (some ⟨ft, 1, fp⟩) (bs.map BkR.D) (progAt (bs.map BkR.D) (k : Int).toNat zs) (badD (bs.map BkR.D) (k : Int).toNat) (fun t => progAt (bs.map BkR.D) (k : Int).toNat (zs.take t.toNat)) = badD (bs.map BkR.D) (k : Int).toNat from rfl, hbe]
      have hH := HH.out
      have hw := HW.out
      have h1 : H + 1 < W0.heap.size := by omega
      have bel : Below w.heap.size w W8 := HB0.out.trans (hbel.mono HB0.out.size)
      have s : ∀ (W : World) (i : Nat) (v : Value), Below w.heap.size w W → Below w.heap.size w (W.setCell ⟨H + 1, i, none⟩ v) := fun W i v hb => hb.setCell (p := ⟨H + 1, i, none⟩) (by simp only; omega) v
      exact ⟨_, _, _, _, _, _, _, rfl, ((((hnd.set_below h1).set_below h1).set_below h1).set_below h1).wider HB0.out.size, hl, s _ _ _ (s _ _ _ (s _ _ _ (s _ _ _ bel)))⟩
    · cases bd with
      | false =>
        have hos := HO.out
        simp only [Bool.false_eq_true, if_false] at hos
        have HOS : Hid (o = none) := hos
        clear hos HO
        have hzt : zs.length = nb := hz
        have HRT : Hid (Rd W7.drew (some ⟨gb, 0, none⟩) zs) := HRZ.out _ B7.drew
        have hcR := programS a n1 cap bs (k : Int) (some ⟨gb, 0, none⟩) nb cb (zs) W7.drew hzt (by omega) (HT.out _ B7.drew).1 HRT.out
        rw [HRK.out.2.1, hzt, HMY.out nb (by omega), show programD true (bs.map BkR.D) (k : Int) (zs) = progAt (bs.map BkR.D) k (zs) from (by unfold programD; rw [hzt, HMY.out nb (by omega), if_pos rfl, Int.toNat_natCast])] at hcR
        have hTW : T < W7.heap.size := zT7.lt
        have s0 : W7.drew.cell? ⟨H, 0, none⟩ = some (.slice a n1 cap) := zH7.cell 0
        have HZH : Hid (Blk W7 H 29 #[.slice a n1 cap, .int .i64 ops, .slice fa m fc, .bool false]) := zH7
        have c2' := zT7.cell 2
        simp at c2'
        clear hzt zH7
        go_upto_region 13 with fail
        clear c1' c2'
        go_region_with ((go_at_call 93; (with_reducible refine hcR.mono ?_); rintro e w8 ⟨aE, nE, cE, qE, rfl, hqE, hlE, b8⟩; have hnE : nE = n1 := (by rw [← hlE, hqE.len, progAt_len]; simp [hln.out]); subst hnE; have b8' : Below W7.heap.size W7 w8 := (Below.refl _ _).drew.trans b8; have HQE : Hid (NewBs w8 W7.heap.size (.slice aE nE cE) (progAt (bs.map BkR.D) k (zs)) qE ∧ qE.length = nE ∧ Below W7.heap.size W7 w8) := ⟨hqE, hlE, b8'⟩; have zX8 := zX7.keep b8'; have u0 := zX8.cell 0; have g0 := zX8.frozen 0; simp at u0; clear hqE hlE b8 b8'))
        all_goals (
          obtain ⟨hqE, hlE, b8⟩ := HQE.out
          have zr8 := zr7.keep b8
          have hd8 := hd7.chip b8 hqE B7.size
          have B8 := B7.trans (b8.mono B7.size)
          have zX9 := zX8.set 0 (.slice aE nE cE)
          have zr9 := zr8.other (B' := X) (by omega) 0 (.slice aE nE cE)
          have hd9 := hd8.svs (sv_one w8 X 0 (.slice aE nE cE)) (fun j hj hf => by
            simp at hf
            subst hf
            rcases List.mem_append.1 hj with h5 | h5
            · have := hqE.new j h5; omega
            · have := hlt.out j (List.mem_append_right _ h5); omega)
          have B9 : Below W0.heap.size W0 (w8.setCell ⟨X, 0, none⟩ (.slice aE nE cE)) := B8.setCell (p := ⟨X, 0, none⟩) hW1 _
          have HXF : Hid (∀ j ∈ fpDv aE nE cE fa1 m1 fc1 qE, j ≠ X) := fun j hj e => by
            subst e
            rcases List.mem_append.1 hj with h5 | h5
            · have := hqE.new j h5; omega
            · have := hlt.out j (List.mem_append_right _ h5); omega
          obtain ⟨W9, hW9⟩ : ∃ W, w8.setCell ⟨X, 0, none⟩ (.slice aE nE cE) = W := ⟨_, rfl⟩
          rw [hW9] at zX9 zr9 hd9 B9 ⊢
          clear hcR zX7 zr7 zT7 hd7 B7 zX8 zr8 hd8 B8 s0 u0 g0 hW9 HZH HQE hqE b8
          simp at zX9
          have y3 := zX9.cell 3
          have g3 := zX9.frozen 3
          simp at y3
          have zX10 := zX9.set 3 (.bool false)
          have zr10 := zr9.other (B' := X) (by omega) 3 (.bool false)
          have hd10 := hd9.svs (sv_one W9 X 3 (.bool false)) (fun j hj hf => by simp at hf; exact HXF.out j hj hf)
          have B10 : Below W0.heap.size W0 (W9.setCell ⟨X, 3, none⟩ (.bool false)) := B9.setCell (p := ⟨X, 3, none⟩) hW1 _
          go_upto_region 15 with fail
          obtain ⟨W10, hW10⟩ : ∃ W, W9.setCell ⟨X, 3, none⟩ (.bool false) = W := ⟨_, rfl⟩
          rw [hW10] at zX10 zr10 hd10 B10 ⊢
          clear hW10 y3 g3 zX9 zr9 hd9 B9
          simp at zX10
          have r0 := zr10.cell 0
          have r1 := zr10.cell 1
          have r2 := zr10.cell 2
          have r3 := zr10.cell 3
          have f0 := zr10.frozen 0
          have f1 := zr10.frozen 1
          have f2 := zr10.frozen 2
          have f3 := zr10.frozen 3
          have zf := (((zr10.set 0 (.slice aE nE cE)).set 1 (.int .i64 (ops + 1))).set 2 (.slice fa1 m1 fc1)).set 3 (.bool false)
          have d0 := zf.cell 0
          have d1 := zf.cell 1
          have d2 := zf.cell 2
          have d3 := zf.cell 3
          have y0 := zX10.cell 0
          have y1 := zX10.cell 1
          have y2 := zX10.cell 2
          have y3 := zX10.cell 3
          simp at r0 r1 r2 r3 d0 d1 d2 d3 y0 y1 y2 y3
          have HN : Hid _ := And.intro hd10 (And.intro hlE B10)
          clear zf hd10 zX10 zr10 B10 hlE
          go_wp2
          refine bodyPost_ret (v := .tuple #[.agg #[.slice aE nE cE, .int .i64 (ops + 1), .slice fa1 m1 fc1, .bool false], .int .i64 0]) (by simp [results, Try.f75, go_sem, d0, d1, d2, d3]) rfl ?_
          obtain ⟨hnd, hl, hbel⟩ := HN.out
          rw [← HGP.out]
          rw [HOS.out, show outDs 0 none (bs.map BkR.D) (progAt (bs.map BkR.D) (k : Int).toNat zs) (badD (bs.map BkR.D) (k : Int).toNat) (fun t => progAt (bs.map BkR.D) (k : Int).toNat (zs.take t.toNat)) = progAt (bs.map BkR.D) k zs from rfl]
          have hH := HH.out
          have hw := HW.out
          have h1 : H + 1 < W0.heap.size := by omega
          have bel : Below w.heap.size w W10 := HB0.out.trans (hbel.mono HB0.out.size)
          have s : ∀ (W : World) (i : Nat) (v : Value), Below w.heap.size w W → Below w.heap.size w (W.setCell ⟨H + 1, i, none⟩ v) := fun W i v hb => hb.setCell (p := ⟨H + 1, i, none⟩) (by simp only; omega) v
          exact ⟨_, _, _, _, _, _, _, rfl, ((((hnd.set_below h1).set_below h1).set_below h1).set_below h1).wider HB0.out.size, hl, s _ _ _ (s _ _ _ (s _ _ _ (s _ _ _ bel)))⟩)
      | true =>
        have hfk : ¬ fk = 1 := fun h => hbad ⟨rfl, h⟩
        have hfkb : (fk == 1) = false := by simpa using hfk
        have hos := HO.out
        simp only [if_true] at hos
        have hkp := HKP.out _ hos
        dsimp only at hkp
        obtain ⟨q, rfl⟩ : ∃ q : Nat, fp = (q : Int) := ⟨fp.toNat, by omega⟩
        have HOS : Hid (o = some ⟨ft, fk, (q : Int)⟩ ∧ ¬ fk = 1) := ⟨hos, hfk⟩
        clear hos HO hfk
        by_cases hqn : q < nb
        · have hqi : (q : Int) < (nb : Int) := by omega
          have hqj : (q : Int) ≤ (nb : Int) := by omega
          have hzt : (zs.take q).length = q := by rw [List.length_take, hz]; omega
          have HRT : Hid (Rd W7.drew (some ⟨gb, 0, none⟩) (zs.take q)) := Rd.takeB (HRZ.out _ B7.drew) q
          have hcR := programS a n1 cap bs (k : Int) (some ⟨gb, 0, none⟩) q cb (zs.take q) W7.drew hzt (by omega) (HT.out _ B7.drew).1 HRT.out
          rw [HRK.out.2.1, hzt, HMY.out q (by omega), show programD true (bs.map BkR.D) (k : Int) (zs.take q) = progAt (bs.map BkR.D) k (zs.take q) from (by unfold programD; rw [hzt, HMY.out q (by omega), if_pos rfl, Int.toNat_natCast])] at hcR
          have hTW : T < W7.heap.size := zT7.lt
          have s0 : W7.drew.cell? ⟨H, 0, none⟩ = some (.slice a n1 cap) := zH7.cell 0
          have HZH : Hid (Blk W7 H 29 #[.slice a n1 cap, .int .i64 ops, .slice fa m fc, .bool false]) := zH7
          have c2' := zT7.cell 2
          simp at c2'
          clear hzt zH7
          go_upto_region 13 with fail
          clear c1' c2'
          go_region_with ((go_at_call 93; (with_reducible refine hcR.mono ?_); rintro e w8 ⟨aE, nE, cE, qE, rfl, hqE, hlE, b8⟩; have hnE : nE = n1 := (by rw [← hlE, hqE.len, progAt_len]; simp [hln.out]); subst hnE; have b8' : Below W7.heap.size W7 w8 := (Below.refl _ _).drew.trans b8; have HQE : Hid (NewBs w8 W7.heap.size (.slice aE nE cE) (progAt (bs.map BkR.D) k (zs.take q)) qE ∧ qE.length = nE ∧ Below W7.heap.size W7 w8) := ⟨hqE, hlE, b8'⟩; have zX8 := zX7.keep b8'; have u0 := zX8.cell 0; have g0 := zX8.frozen 0; simp at u0; clear hqE hlE b8 b8'))
          all_goals (
            obtain ⟨hqE, hlE, b8⟩ := HQE.out
            have zr8 := zr7.keep b8
            have hd8 := hd7.chip b8 hqE B7.size
            have B8 := B7.trans (b8.mono B7.size)
            have zX9 := zX8.set 0 (.slice aE nE cE)
            have zr9 := zr8.other (B' := X) (by omega) 0 (.slice aE nE cE)
            have hd9 := hd8.svs (sv_one w8 X 0 (.slice aE nE cE)) (fun j hj hf => by
              simp at hf
              subst hf
              rcases List.mem_append.1 hj with h5 | h5
              · have := hqE.new j h5; omega
              · have := hlt.out j (List.mem_append_right _ h5); omega)
            have B9 : Below W0.heap.size W0 (w8.setCell ⟨X, 0, none⟩ (.slice aE nE cE)) := B8.setCell (p := ⟨X, 0, none⟩) hW1 _
            have HXF : Hid (∀ j ∈ fpDv aE nE cE fa1 m1 fc1 qE, j ≠ X) := fun j hj e => by
              subst e
              rcases List.mem_append.1 hj with h5 | h5
              · have := hqE.new j h5; omega
              · have := hlt.out j (List.mem_append_right _ h5); omega
            obtain ⟨W9, hW9⟩ : ∃ W, w8.setCell ⟨X, 0, none⟩ (.slice aE nE cE) = W := ⟨_, rfl⟩
            rw [hW9] at zX9 zr9 hd9 B9 ⊢
            clear hcR zX7 zr7 zT7 hd7 B7 zX8 zr8 hd8 B8 s0 u0 g0 hW9 HZH HQE hqE b8
            simp at zX9
            have y3 := zX9.cell 3
            have g3 := zX9.frozen 3
            simp at y3
            have zX10 := zX9.set 3 (.bool true)
            have zr10 := zr9.other (B' := X) (by omega) 3 (.bool true)
            have hd10 := hd9.svs (sv_one W9 X 3 (.bool true)) (fun j hj hf => by simp at hf; exact HXF.out j hj hf)
            have B10 : Below W0.heap.size W0 (W9.setCell ⟨X, 3, none⟩ (.bool true)) := B9.setCell (p := ⟨X, 3, none⟩) hW1 _
            go_upto_region 15 with fail
            obtain ⟨W10, hW10⟩ : ∃ W, W9.setCell ⟨X, 3, none⟩ (.bool true) = W := ⟨_, rfl⟩
            rw [hW10] at zX10 zr10 hd10 B10 ⊢
            clear hW10 y3 g3 zX9 zr9 hd9 B9
            simp at zX10
            have r0 := zr10.cell 0
            have r1 := zr10.cell 1
            have r2 := zr10.cell 2
            have r3 := zr10.cell 3
            have f0 := zr10.frozen 0
            have f1 := zr10.frozen 1
            have f2 := zr10.frozen 2
            have f3 := zr10.frozen 3
            have zf := (((zr10.set 0 (.slice aE nE cE)).set 1 (.int .i64 (ops + 1))).set 2 (.slice fa1 m1 fc1)).set 3 (.bool true)
            have d0 := zf.cell 0
            have d1 := zf.cell 1
            have d2 := zf.cell 2
            have d3 := zf.cell 3
            have y0 := zX10.cell 0
            have y1 := zX10.cell 1
            have y2 := zX10.cell 2
            have y3 := zX10.cell 3
            simp at r0 r1 r2 r3 d0 d1 d2 d3 y0 y1 y2 y3
            have HN : Hid _ := And.intro hd10 (And.intro hlE B10)
            clear zf hd10 zX10 zr10 B10 hlE
            go_wp2
            refine bodyPost_ret (v := .tuple #[.agg #[.slice aE nE cE, .int .i64 (ops + 1), .slice fa1 m1 fc1, .bool true], .int .i64 10]) (by simp [results, Try.f75, go_sem, d0, d1, d2, d3]) rfl ?_
            obtain ⟨hnd, hl, hbel⟩ := HN.out
            rw [← HGP.out]
            obtain ⟨e1, e2⟩ := HOS.out
            have hto : outDs 0 (some ⟨ft, fk, (q : Int)⟩) (bs.map BkR.D) (progAt (bs.map BkR.D) (k : Int).toNat zs) (badD (bs.map BkR.D) (k : Int).toNat) (fun t => progAt (bs.map BkR.D) (k : Int).toNat (zs.take t.toNat)) = progAt (bs.map BkR.D) k (zs.take q) := by
              unfold outDs
              rw [if_pos rfl]
              dsimp only
              rw [if_neg e2]
              simp only [Int.toNat_natCast]
              try rfl
            rw [e1, hto, show outDown 0 (some ⟨ft, fk, (q : Int)⟩) false = true from (by unfold outDown; rw [if_pos rfl]; dsimp only; rw [if_neg e2]), show outCode 0 (some ⟨ft, fk, (q : Int)⟩) = 10 from (by unfold outCode; rw [if_pos rfl]; dsimp only; rw [if_neg e2])]
            have hH := HH.out
            have hw := HW.out
            have h1 : H + 1 < W0.heap.size := by omega
            have bel : Below w.heap.size w W10 := HB0.out.trans (hbel.mono HB0.out.size)
            have s : ∀ (W : World) (i : Nat) (v : Value), Below w.heap.size w W → Below w.heap.size w (W.setCell ⟨H + 1, i, none⟩ v) := fun W i v hb => hb.setCell (p := ⟨H + 1, i, none⟩) (by simp only; omega) v
            exact ⟨_, _, _, _, _, _, _, rfl, ((((hnd.set_below h1).set_below h1).set_below h1).set_below h1).wider HB0.out.size, hl, s _ _ _ (s _ _ _ (s _ _ _ (s _ _ _ bel)))⟩)
        · have hqi : ¬ (q : Int) < (nb : Int) := by omega
          have hqq : nb ≤ q := by omega
          have HQQ : Hid (zs.take q = zs) := by show _ = _; rw [List.take_of_length_le (by omega)]
          have hzt : zs.length = nb := hz
          have HRT : Hid (Rd W7.drew (some ⟨gb, 0, none⟩) (zs)) := HRZ.out _ B7.drew
          have hcR := programS a n1 cap bs (k : Int) (some ⟨gb, 0, none⟩) nb cb (zs) W7.drew hzt (by omega) (HT.out _ B7.drew).1 HRT.out
          rw [HRK.out.2.1, hzt, HMY.out nb (by omega), show programD true (bs.map BkR.D) (k : Int) (zs) = progAt (bs.map BkR.D) k (zs) from (by unfold programD; rw [hzt, HMY.out nb (by omega), if_pos rfl, Int.toNat_natCast])] at hcR
          have hTW : T < W7.heap.size := zT7.lt
          have s0 : W7.drew.cell? ⟨H, 0, none⟩ = some (.slice a n1 cap) := zH7.cell 0
          have HZH : Hid (Blk W7 H 29 #[.slice a n1 cap, .int .i64 ops, .slice fa m fc, .bool false]) := zH7
          have c2' := zT7.cell 2
          simp at c2'
          clear hzt zH7
          go_upto_region 13 with fail
          clear c1' c2'
          go_region_with ((go_at_call 93; (with_reducible refine hcR.mono ?_); rintro e w8 ⟨aE, nE, cE, qE, rfl, hqE, hlE, b8⟩; have hnE : nE = n1 := (by rw [← hlE, hqE.len, progAt_len]; simp [hln.out]); subst hnE; have b8' : Below W7.heap.size W7 w8 := (Below.refl _ _).drew.trans b8; have HQE : Hid (NewBs w8 W7.heap.size (.slice aE nE cE) (progAt (bs.map BkR.D) k (zs)) qE ∧ qE.length = nE ∧ Below W7.heap.size W7 w8) := ⟨hqE, hlE, b8'⟩; have zX8 := zX7.keep b8'; have u0 := zX8.cell 0; have g0 := zX8.frozen 0; simp at u0; clear hqE hlE b8 b8'))
          all_goals (
            obtain ⟨hqE, hlE, b8⟩ := HQE.out
            have zr8 := zr7.keep b8
            have hd8 := hd7.chip b8 hqE B7.size
            have B8 := B7.trans (b8.mono B7.size)
            have zX9 := zX8.set 0 (.slice aE nE cE)
            have zr9 := zr8.other (B' := X) (by omega) 0 (.slice aE nE cE)
            have hd9 := hd8.svs (sv_one w8 X 0 (.slice aE nE cE)) (fun j hj hf => by
              simp at hf
              subst hf
              rcases List.mem_append.1 hj with h5 | h5
              · have := hqE.new j h5; omega
              · have := hlt.out j (List.mem_append_right _ h5); omega)
            have B9 : Below W0.heap.size W0 (w8.setCell ⟨X, 0, none⟩ (.slice aE nE cE)) := B8.setCell (p := ⟨X, 0, none⟩) hW1 _
            have HXF : Hid (∀ j ∈ fpDv aE nE cE fa1 m1 fc1 qE, j ≠ X) := fun j hj e => by
              subst e
              rcases List.mem_append.1 hj with h5 | h5
              · have := hqE.new j h5; omega
              · have := hlt.out j (List.mem_append_right _ h5); omega
            obtain ⟨W9, hW9⟩ : ∃ W, w8.setCell ⟨X, 0, none⟩ (.slice aE nE cE) = W := ⟨_, rfl⟩
            rw [hW9] at zX9 zr9 hd9 B9 ⊢
            clear hcR zX7 zr7 zT7 hd7 B7 zX8 zr8 hd8 B8 s0 u0 g0 hW9 HZH HQE hqE b8
            simp at zX9
            have y3 := zX9.cell 3
            have g3 := zX9.frozen 3
            simp at y3
            have zX10 := zX9.set 3 (.bool true)
            have zr10 := zr9.other (B' := X) (by omega) 3 (.bool true)
            have hd10 := hd9.svs (sv_one W9 X 3 (.bool true)) (fun j hj hf => by simp at hf; exact HXF.out j hj hf)
            have B10 : Below W0.heap.size W0 (W9.setCell ⟨X, 3, none⟩ (.bool true)) := B9.setCell (p := ⟨X, 3, none⟩) hW1 _
            go_upto_region 15 with fail
            obtain ⟨W10, hW10⟩ : ∃ W, W9.setCell ⟨X, 3, none⟩ (.bool true) = W := ⟨_, rfl⟩
            rw [hW10] at zX10 zr10 hd10 B10 ⊢
            clear hW10 y3 g3 zX9 zr9 hd9 B9
            simp at zX10
            have r0 := zr10.cell 0
            have r1 := zr10.cell 1
            have r2 := zr10.cell 2
            have r3 := zr10.cell 3
            have f0 := zr10.frozen 0
            have f1 := zr10.frozen 1
            have f2 := zr10.frozen 2
            have f3 := zr10.frozen 3
            have zf := (((zr10.set 0 (.slice aE nE cE)).set 1 (.int .i64 (ops + 1))).set 2 (.slice fa1 m1 fc1)).set 3 (.bool true)
            have d0 := zf.cell 0
            have d1 := zf.cell 1
            have d2 := zf.cell 2
            have d3 := zf.cell 3
            have y0 := zX10.cell 0
            have y1 := zX10.cell 1
            have y2 := zX10.cell 2
            have y3 := zX10.cell 3
            simp at r0 r1 r2 r3 d0 d1 d2 d3 y0 y1 y2 y3
            have HN : Hid _ := And.intro hd10 (And.intro hlE B10)
            clear zf hd10 zX10 zr10 B10 hlE
            go_wp2
            refine bodyPost_ret (v := .tuple #[.agg #[.slice aE nE cE, .int .i64 (ops + 1), .slice fa1 m1 fc1, .bool true], .int .i64 10]) (by simp [results, Try.f75, go_sem, d0, d1, d2, d3]) rfl ?_
            obtain ⟨hnd, hl, hbel⟩ := HN.out
            rw [← HGP.out]
            obtain ⟨e1, e2⟩ := HOS.out
            have hto : outDs 0 (some ⟨ft, fk, (q : Int)⟩) (bs.map BkR.D) (progAt (bs.map BkR.D) (k : Int).toNat zs) (badD (bs.map BkR.D) (k : Int).toNat) (fun t => progAt (bs.map BkR.D) (k : Int).toNat (zs.take t.toNat)) = progAt (bs.map BkR.D) k (zs) := by
              unfold outDs
              rw [if_pos rfl]
              dsimp only
              rw [if_neg e2]
              simp only [Int.toNat_natCast]
              rw [HQQ.out]
            rw [e1, hto, show outDown 0 (some ⟨ft, fk, (q : Int)⟩) false = true from (by unfold outDown; rw [if_pos rfl]; dsimp only; rw [if_neg e2]), show outCode 0 (some ⟨ft, fk, (q : Int)⟩) = 10 from (by unfold outCode; rw [if_pos rfl]; dsimp only; rw [if_neg e2])]
            have hH := HH.out
            have hw := HW.out
            have h1 : H + 1 < W0.heap.size := by omega
            have bel : Below w.heap.size w W10 := HB0.out.trans (hbel.mono HB0.out.size)
            have s : ∀ (W : World) (i : Nat) (v : Value), Below w.heap.size w W → Below w.heap.size w (W.setCell ⟨H + 1, i, none⟩ v) := fun W i v hb => hb.setCell (p := ⟨H + 1, i, none⟩) (by simp only; omega) v
            exact ⟨_, _, _, _, _, _, _, rfl, ((((hnd.set_below h1).set_below h1).set_below h1).set_below h1).wider HB0.out.size, hl, s _ _ _ (s _ _ _ (s _ _ _ (s _ _ _ bel)))⟩)
  · have hcn : (CD != 0) = true := by simp [hc0]
    have r0 := zr4.cell 0
    have r1 := zr4.cell 1
    have r2 := zr4.cell 2
    have r3 := zr4.cell 3
    have f0 := zr4.frozen 0
    have f1 := zr4.frozen 1
    have f2 := zr4.frozen 2
    have f3 := zr4.frozen 3
    have zf := (((zr4.set 0 (.slice a1 n1 c1)).set 1 (.int .i64 ops)).set 2 (.slice fa1 m1 fc1)).set 3 (.bool down)
    have d0 := zf.cell 0
    have d1 := zf.cell 1
    have d2 := zf.cell 2
    have d3 := zf.cell 3
    have y0 := zX4.cell 0
    have y1 := zX4.cell 1
    have y2 := zX4.cell 2
    have y3 := zX4.cell 3
    simp at r0 r1 r2 r3 d0 d1 d2 d3 y0 y1 y2 y3
    have HN : Hid _ := And.intro hd4 (And.intro hl B4)
    clear zf hd4 zX4 zr4 zH4 B4
    go_wp2
    refine bodyPost_ret (v := .tuple #[.agg #[.slice a1 n1 c1, .int .i64 ops, .slice fa1 m1 fc1, .bool down], .int .i64 CD]) (by simp [results, Try.f75, go_sem, d0, d1, d2, d3]) rfl ?_
    obtain ⟨hnd, hl, hbel⟩ := HN.out
    rw [← HGP.out]
    rw [outs_no rfl hc0]
    have hH := HH.out
    have hw := HW.out
    have h1 : H + 1 < W0.heap.size := by omega
    have bel : Below w.heap.size w W4 := HB0.out.trans (hbel.mono HB0.out.size)
    have s : ∀ (W : World) (i : Nat) (v : Value), Below w.heap.size w W → Below w.heap.size w (W.setCell ⟨H + 1, i, none⟩ v) := fun W i v hb => hb.setCell (p := ⟨H + 1, i, none⟩) (by simp only; omega) v
    exact ⟨_, _, _, _, _, _, _, rfl, ((((hnd.set_below h1).set_below h1).set_below h1).set_below h1).wider HB0.out.size, hl, s _ _ _ (s _ _ _ (s _ _ _ (s _ _ _ bel)))⟩
end

section
open Go.RowKit
/-- A device while it is written to. -/
structure LgS where
  ds : List BkD
  ops : Int
  down : Bool
/-- The code ahead of a try, the state behind it, its code. -/
noncomputable def stC (fs : List FtD) (k nb : Nat) (S : LgS) : Int := evCode S.ds S.ops fs S.down (codeP true S.ds (k : Int) nb)
noncomputable def stN (fs : List FtD) (k : Nat) (Z : List Int) (S : LgS) : LgS :=
  ⟨outDs (stC fs k Z.length S) (faD S.ops fs) S.ds (progAt S.ds ((k : Nat) : Int).toNat Z) (badD S.ds ((k : Nat) : Int).toNat) (fun t => progAt S.ds ((k : Nat) : Int).toNat (Z.take t.toNat)), outOps (stC fs k Z.length S) S.ops, outDown (stC fs k Z.length S) (faD S.ops fs) S.down⟩
noncomputable def stO (fs : List FtD) (k : Nat) (Z : List Int) (S : LgS) : Int := outCode (stC fs k Z.length S) (faD S.ops fs)
/-- What is answered: the device, whether the number is one more, the address, the code. -/
structure WrA where
  S : LgS
  more : Bool
  adr : Int
  code : Int
/-- So many tries. -/
noncomputable def wrA (fs : List FtD) (Z : List Int) (spare : Int) : Nat → LgS → WrA
  | 0, S => ⟨S, false, -1, 9⟩
  | f + 1, S =>
    if openD S.ds spare < 0 then ⟨S, false, -1, 9⟩
    else if stO fs (openD S.ds spare).toNat Z S = 0 then ⟨stN fs (openD S.ds spare).toNat Z S, true, openD S.ds spare * 8 + nextD S.ds (openD S.ds spare), 0⟩
    else if stO fs (openD S.ds spare).toNat Z S = 2 then wrA fs Z spare f (stN fs (openD S.ds spare).toNat Z S)
    else ⟨stN fs (openD S.ds spare).toNat Z S, (stN fs (openD S.ds spare).toNat Z S).down, -1, stO fs (openD S.ds spare).toNat Z S⟩
/-- Blocks that are not bad. -/
def gdN (ds : List BkD) : Nat := (ds.filter fun b => !b.bad).length
theorem gdN_set {ds : List BkD} {k : Nat} {b : BkD} (hb : ds[k]? = some b) (hg : b.bad = false) : gdN (ds.set k ⟨b.ps, b.wear, true⟩) + 1 = gdN ds := by
  obtain ⟨e1, e2⟩ := split_at hb (⟨b.ps, b.wear, true⟩ : BkD)
  unfold gdN
  rw [e2]
  conv => rhs; rw [e1]
  rw [List.filter_append, List.filter_append, List.filter_cons_of_neg (by simp), List.filter_cons_of_pos (by simp [hg])]
  simp
  omega
/-- What holds while a log is written to. -/
def LgI (fs : List FtD) (S : LgS) : Prop := devB S.ds S.ops fs = true ∧ S.down = false
theorem devB_parts {ds : List BkD} {ops : Int} {fs : List FtD} : devB ds ops fs = true ↔ ChOk ds ∧ (0 ≤ ops ∧ ops ≤ 100000) ∧ faultsB fs = true := by
  unfold devB
  simp only [Bool.and_eq_true, decide_eq_true_eq]
  rw [chipOkB_iff]
  exact ⟨fun h => ⟨h.1.1, h.1.2, h.2⟩, fun h => ⟨⟨h.1, h.2.1⟩, h.2.2⟩⟩
theorem fstD_hit {p : BkD → Bool} {ds : List BkD} (h : 0 ≤ fstD p ds) : ∃ (k : Nat) (b : BkD), fstD p ds = (k : Int) ∧ ds[k]? = some b ∧ p b = true := by
  unfold fstD at h ⊢
  cases hf : ds.findIdx? p with
  | none => rw [hf] at h; simp at h
  | some k =>
    rw [List.findIdx?_eq_some_iff_getElem] at hf
    obtain ⟨h1, h2, _⟩ := hf
    exact ⟨k, ds[k], rfl, List.getElem?_eq_getElem h1, h2⟩
/-- The open block has room. -/
theorem openD_hit {ds : List BkD} {spare : Int} (hC : ChOk ds) (h : 0 ≤ openD ds spare) : ∃ (k : Nat) (b : BkD), openD ds spare = (k : Int) ∧ ds[k]? = some b ∧ b.bad = false ∧ nextP b.ps < 8 := by
  unfold openD at h ⊢
  by_cases h1 : 0 ≤ fstD begB ds
  · rw [if_pos h1]
    obtain ⟨k, b, e, hk, hp⟩ := fstD_hit h1
    have h8 := (hC.2.2 b (List.mem_of_getElem? hk)).1
    unfold begB at hp
    simp at hp
    exact ⟨k, b, e, hk, hp.1, by omega⟩
  · rw [if_neg h1] at h ⊢
    by_cases h2 : spare < (freeD ds : Int)
    · rw [if_pos h2] at h ⊢
      obtain ⟨k, b, e, hk, hp⟩ := fstD_hit h
      unfold freeB at hp
      simp at hp
      exact ⟨k, b, e, hk, hp.1, by omega⟩
    · rw [if_neg h2] at h
      omega
theorem codeP_zero {ds : List BkD} {k nb : Nat} {b : BkD} (hk : ds[k]? = some b) (hb : b.bad = false) (hn : nextP b.ps < 8) (hz : nb ≤ 400) : codeP true ds (k : Int) nb = 0 := by
  have hl := (List.getElem?_eq_some_iff.1 hk).1
  have hnd : nextD ds (k : Int) = (nextP b.ps : Nat) := by unfold nextD; rw [if_pos (by omega)]; simp [hk]
  unfold codeP
  rw [if_neg (by omega)]
  unfold mayD
  rw [if_neg (by simp; omega)]
  simp only [Int.toNat_natCast, hk, Option.map_some, Option.getD_some, hb, hnd]
  rw [if_neg (by simp), if_neg (by simp; omega)]
theorem stC_eq {fs : List FtD} {k nb : Nat} {S : LgS} {b : BkD} (hI : LgI fs S) (hk : S.ds[k]? = some b) (hb : b.bad = false) (hn : nextP b.ps < 8) (hz : nb ≤ 400) : stC fs k nb S = if 100000 ≤ S.ops then 10 else 0 := by
  unfold stC evCode
  rw [codeP_zero hk hb hn hz, hI.1, hI.2]
  simp
/-- One try: its code, and that the device stays right. -/
theorem st_ok {fs : List FtD} {k : Nat} {Z : List Int} {S : LgS} {b : BkD} (hI : LgI fs S) (hk : S.ds[k]? = some b) (hb : b.bad = false) (hn : nextP b.ps < 8) (hz : Z.length ≤ 400) :
    devB (stN fs k Z S).ds (stN fs k Z S).ops fs = true ∧ (stN fs k Z S).ds.length = S.ds.length ∧
    ((stO fs k Z S = 0 ∧ (stN fs k Z S).down = false) ∨ (stO fs k Z S = 2 ∧ (stN fs k Z S).down = false ∧ gdN (stN fs k Z S).ds + 1 = gdN S.ds ∧ S.ops < 100000 ∧ (stN fs k Z S).ops = S.ops + 1) ∨ stO fs k Z S = 10) := by
  obtain ⟨hC, hops, hF⟩ := devB_parts.1 hI.1
  have hc := stC_eq (nb := Z.length) hI hk hb hn hz
  have hcp : ∀ Y : List Int, Y.length ≤ 400 → ChOk (progAt S.ds k Y) := fun Y hY => by
    have := ok_prog hC (k : Int) Y
    unfold programD at this
    rw [codeP_zero hk hb hn hY, if_pos rfl, Int.toNat_natCast] at this
    exact this
  have hcb : ChOk (badD S.ds k) := by
    unfold badD
    rw [hk]
    exact ok_set hC (hC.2.2 b (List.mem_of_getElem? hk))
  unfold stN stO
  rw [hc, Int.toNat_natCast]
  by_cases h1 : 100000 ≤ S.ops
  · rw [if_pos h1]
    refine ⟨?_, rfl, .inr (.inr rfl)⟩
    show devB S.ds S.ops fs = true
    exact hI.1
  · rw [if_neg h1]
    unfold outDs outOps outDown outCode
    simp only [if_true]
    cases ho : faD S.ops fs with
    | none =>
      dsimp only
      exact ⟨devB_parts.2 ⟨hcp Z hz, by omega, hF⟩, progAt_len _ _ _, .inl ⟨rfl, hI.2⟩⟩
    | some f =>
      dsimp only
      by_cases hf : f.kd = 1
      · rw [if_pos hf, if_pos hf, if_pos hf]
        refine ⟨devB_parts.2 ⟨hcb, by omega, hF⟩, ?_, .inr (.inl ⟨rfl, hI.2, ?_, by omega, trivial⟩)⟩
        · unfold badD; rw [hk]; simp
        · unfold badD; rw [hk]; exact gdN_set hk hb
      · rw [if_neg hf, if_neg hf, if_neg hf]
        refine ⟨devB_parts.2 ⟨hcp _ (by rw [List.length_take]; omega), by omega, hF⟩, progAt_len _ _ _, .inr (.inr rfl)⟩
end

section
open Go.RowKit
theorem Blk.log {W : World} {H : Nat} {t : TypeId} {v0 v1 v2 v3 v4 : Value} (h : Blk W H t #[v0, v1, v2, v3, v4]) : W.cell? ⟨H, 0, none⟩ = some v0 ∧ W.cell? ⟨H, 1, none⟩ = some v1 ∧ W.cell? ⟨H, 2, none⟩ = some v2 ∧ W.cell? ⟨H, 3, none⟩ = some v3 ∧ W.cell? ⟨H, 4, none⟩ = some v4 := ⟨h.cell 0, h.cell 1, h.cell 2, h.cell 3, h.cell 4⟩
/-- A new log was answered. -/
def LgA (w : World) (D : DvD) (seq : Int) (e : Ending) (w' : World) : Prop := ∃ a n c fa m fc qs, e = .returned (.agg #[.slice a n c, .int .i64 D.ops, .slice fa m fc, .bool D.down, .int .i64 seq]) ∧ NewDv w' w.heap.size a n c fa m fc D.ds D.fs qs ∧ qs.length = n ∧ Below w.heap.size w w'
set_option maxRecDepth 100000 in
set_option maxHeartbeats 8000000 in
theorem copyLogS (a : Option Addr) (n cap : Nat) (bs : List BkR) (ops : Int) (fa : Option Addr) (m fc : Nat) (fs : List FtD) (down : Bool) (seq : Int) (w : World) (ht : CR w a n bs) (hf : FR w fa m fs) :
    Calls Try.prog 60 #[.agg #[.slice a n cap, .int .i64 ops, .slice fa m fc, .bool down, .int .i64 seq]] w (LgA w ⟨bs.map BkR.D, ops, fs, down⟩ seq) := by
  have B0 : Below w.heap.size w ((w.alloc (.cells #[.slice a n cap, .int .i64 ops, .slice fa m fc, .bool down, .int .i64 seq] 31)).alloc (.cells #[.slice none 0 0, .int .i64 0, .slice none 0 0, .bool false, .int .i64 0] 31)) := ((Below.refl _ w).alloc (Nat.le_refl _) _).alloc (by simp) _
  have z0 := (Blk.new w 31 #[.slice a n cap, .int .i64 ops, .slice fa m fc, .bool down, .int .i64 seq]).alloc (.cells #[.slice none 0 0, .int .i64 0, .slice none 0 0, .bool false, .int .i64 0] 31)
  have z1 := Blk.new (w.alloc (.cells #[.slice a n cap, .int .i64 ops, .slice fa m fc, .bool down, .int .i64 seq] 31)) 31 #[.slice none 0 0, .int .i64 0, .slice none 0 0, .bool false, .int .i64 0]
  simp only [World.size_alloc] at z1
  obtain ⟨H, hH⟩ : ∃ H, w.heap.size = H := ⟨_, rfl⟩
  rw [hH] at z0 z1
  generalize hGP : LgA w ⟨bs.map BkR.D, ops, fs, down⟩ seq = P
  have HGP : Hid _ := hGP
  clear hGP
  go_enter Try.func60, Try.ntmps60
  go_upto_region 1 with fail
  obtain ⟨W0, hW0⟩ : ∃ W, (w.alloc (.cells #[.slice a n cap, .int .i64 ops, .slice fa m fc, .bool down, .int .i64 seq] 31)).alloc (.cells #[.slice none 0 0, .int .i64 0, .slice none 0 0, .bool false, .int .i64 0] 31) = W := ⟨_, rfl⟩
  rw [hW0] at B0 z0 z1 ⊢
  clear hW0
  have HD : Hid (Below w.heap.size w W0.drew) := B0.drew
  have HZ0 : Hid (Blk W0.drew H 31 #[.slice a n cap, .int .i64 ops, .slice fa m fc, .bool down, .int .i64 seq]) := z0.keep (Below.refl _ _).drew
  have HZ1 : Hid (Blk W0.drew (H + 1) 31 #[.slice none 0 0, .int .i64 0, .slice none 0 0, .bool false, .int .i64 0]) := z1.keep (Below.refl _ _).drew
  have hc0 := copyDevS a n cap bs ops fa m fc fs down W0.drew (ht.keep HD.out) (hf.keep HD.out)
  have hall : Hid (∀ W : World, Below W0.drew.heap.size W0.drew W → W.cell? ⟨H, 0, none⟩ = some (.slice a n cap) ∧ W.cell? ⟨H, 1, none⟩ = some (.int .i64 ops) ∧ W.cell? ⟨H, 2, none⟩ = some (.slice fa m fc) ∧ W.cell? ⟨H, 3, none⟩ = some (.bool down) ∧ W.cell? ⟨H, 4, none⟩ = some (.int .i64 seq)) := fun W hW => (Blk.keep HZ0.out hW).log
  obtain ⟨s0, s1, s2, s3, s4⟩ := hall.out W0.drew (Below.refl _ _)
  clear ht hf B0 z0 z1
  refine wp_region_noPanic ?_
  refine wp_region_last (fun W : World => W.cell? ⟨H, 0, none⟩ = some (.slice a n cap) ∧ W.cell? ⟨H, 1, none⟩ = some (.int .i64 ops) ∧ W.cell? ⟨H, 2, none⟩ = some (.slice fa m fc) ∧ W.cell? ⟨H, 3, none⟩ = some (.bool down) ∧ W.cell? ⟨H, 4, none⟩ = some (.int .i64 seq)) 6 (by kernel_rfl) (by kernel_rfl) (by go_keep) 6 (by kernel_rfl) (fun hS => ?_)
  refine wpAnyH_take (i := 0) (v := ?gv6) rfl (by kernel_rfl) (by kernel_rfl) (by kernel_rfl) (fun _ _ _ h => h) (Or.inl ⟨by kernel_rfl, ?gy6⟩) (by assumption) ?gr6
  case gy6 => (intro w' hSw; (try dsimp only at hSw); go_simp; (try with_reducible rfl))
  try simp only [Act.put, List.setIfInBounds_toArray, List.set_cons_zero, List.set_cons_succ, List.getElem_toArray, List.getElem_cons_zero]
  refine wpAnyH_take (i := 1) (v := ?gv7) rfl (by kernel_rfl) (by kernel_rfl) (by kernel_rfl) (fun _ _ _ h => h) (Or.inl ⟨by kernel_rfl, ?gy7⟩) (by assumption) ?gr7
  case gy7 => (intro w' hSw; (try dsimp only at hSw); go_simp; (try with_reducible rfl))
  try simp only [Act.put, List.setIfInBounds_toArray, List.set_cons_zero, List.set_cons_succ, List.getElem_toArray, List.getElem_cons_succ, List.getElem_cons_zero]
  refine wpAnyH_take (i := 3) (v := ?gv8) rfl (by kernel_rfl) (by kernel_rfl) (by kernel_rfl) (fun _ _ _ h => h) (Or.inl ⟨by kernel_rfl, ?gy8⟩) (by assumption) ?gr8
  case gy8 => (intro w' hSw; (try dsimp only at hSw); go_simp; (try with_reducible rfl))
  try simp only [Act.put, List.setIfInBounds_toArray, List.set_cons_zero, List.set_cons_succ, List.getElem_toArray, List.getElem_cons_succ, List.getElem_cons_zero]
  refine wpAnyH_take (i := 4) (v := ?gv9) rfl (by kernel_rfl) (by kernel_rfl) (by kernel_rfl) (fun _ _ _ h => h) (Or.inl ⟨by kernel_rfl, ?gy9⟩) (by assumption) ?gr9
  case gy9 => (intro w' hSw; (try dsimp only at hSw); go_simp; (try with_reducible rfl))
  try simp only [Act.put, List.setIfInBounds_toArray, List.set_cons_zero, List.set_cons_succ, List.getElem_toArray, List.getElem_cons_succ, List.getElem_cons_zero]
  refine wpAnyH_ready (rs := [2]) (by kernel_rfl) (by simp) ?_
  refine AllReadyH.cons rfl (fun K hK => ?_) AllReadyH.nil
  go_simp
  (with_reducible refine hc0.mono ?_)
  rintro e W9 ⟨a1, n1, c1, fa1, m1, fc1, qs, rfl, hq, hql, b1⟩
  have HND : Hid (NewDv W9 W0.drew.heap.size a1 n1 c1 fa1 m1 fc1 (bs.map BkR.D) fs qs ∧ qs.length = n1 ∧ Below W0.drew.heap.size W0.drew W9) := ⟨hq, hql, b1⟩
  clear hq hql b1
  have zr := Blk.keep HZ1.out HND.out.2.2
  obtain ⟨r0, r1, r2, r3, r4⟩ := zr.log
  have f0 := zr.frozen 0
  have f1 := zr.frozen 1
  have f2 := zr.frozen 2
  have f3 := zr.frozen 3
  have f4 := zr.frozen 4
  dsimp only
  clear hS
  try dsimp only
  refine Shut.out hK _ _ (hall.out W9 HND.out.2.2) (fun hS => ?_)
  try simp only [Act.put, List.setIfInBounds_toArray, List.set_cons_zero, List.set_cons_succ, List.getElem_toArray, List.getElem_cons_succ, List.getElem_cons_zero]
  refine wpAnyH_take (i := 5) (v := ?gv10) rfl (by kernel_rfl) (by kernel_rfl) (by kernel_rfl) (fun _ _ _ h => h) (Or.inl ⟨by kernel_rfl, ?gy10⟩) (by assumption) ?gr10
  case gy10 => (intro w' hSw; (try dsimp only at hSw); go_simp; (try with_reducible rfl))
  try simp only [Act.put, List.setIfInBounds_toArray, List.set_cons_zero, List.set_cons_succ, List.getElem_toArray, List.getElem_cons_succ, List.getElem_cons_zero]
  refine wpAnyH_done (by kernel_rfl) ?_ _
  refine wpOp_last rfl (fun K hK => ?_)
  clear hS
  go_simp
  refine Shut.out hK _ _ (NoPanic.normal ?_)
  all_goals (
    have zf := ((((zr.set 0 (.slice a1 n1 c1)).set 1 (.int .i64 ops)).set 2 (.slice fa1 m1 fc1)).set 3 (.bool down)).set 4 (.int .i64 seq)
    have d0 := zf.cell 0
    have d1 := zf.cell 1
    have d2 := zf.cell 2
    have d3 := zf.cell 3
    have d4 := zf.cell 4
    simp at d0 d1 d2 d3 d4
    clear zr zf r0 r1 r2 r3 r4 f0 f1 f2 f3 f4 hc0 s0 s1 s2 s3 s4
    go_wp2
    refine bodyPost_ret (v := .agg #[.slice a1 n1 c1, .int .i64 ops, .slice fa1 m1 fc1, .bool down, .int .i64 seq]) (by simp [results, Try.f60, go_sem, d0, d1, d2, d3, d4]) rfl ?_
    rw [← HGP.out]
    obtain ⟨hd, hl, hb⟩ := HND.out
    have h1 : H + 1 < W0.drew.heap.size := HZ1.out.lt
    have bel : Below w.heap.size w W9 := HD.out.trans (hb.mono HD.out.size)
    have s : ∀ (W : World) (i : Nat) (v : Value), Below w.heap.size w W → Below w.heap.size w (W.setCell ⟨H + 1, i, none⟩ v) := fun W i v hb => hb.setCell (p := ⟨H + 1, i, none⟩) (by simp only; omega) v
    exact ⟨a1, n1, c1, fa1, m1, fc1, qs, rfl, (((((hd.set_below h1).set_below h1).set_below h1).set_below h1).set_below h1).wider HD.out.size, hl, s _ _ _ (s _ _ _ (s _ _ _ (s _ _ _ (s _ _ _ bel))))⟩)
end
end Go.Proofs.Ytpejfkgbfdkdnaa
