/-
  The walk of FnKinds.
-/
import Derived.Test.YtbjfihabkpianaaGreatDoorGrownWE
import Derived.Test.YtbjfihabkpianaaGreatDoorJ40E
namespace Go.Proofs.YtbjfihabkpianaaGreatDoor
open Go.RowKit
/-- A slash and a letter. -/
def slS (k : Nat) : ByteArray := ⟨#[47, UInt8.ofNat (97 + k)]⟩
theorem slS_eq {k : Nat} (hk : k < 26) : (⟨#[47]⟩ : ByteArray) ++ str [97 + (k : Int)] = slS k := by
  have h : ∀ k : Fin 26, (⟨#[47]⟩ : ByteArray) ++ str [97 + ((k : Nat) : Int)] = slS k := by decide
  exact h ⟨k, hk⟩
/-- A path behind the file. -/
def kP (k : Nat) : ByteArray := ⟨#[47, 116, 111, 112, 47, UInt8.ofNat (97 + k)]⟩
theorem kP_eq {k : Nat} (hk : k < 26) : (⟨#[47, 116, 111, 112]⟩ : ByteArray) ++ slS k = kP k := by
  have h : ∀ k : Fin 26, (⟨#[47, 116, 111, 112]⟩ : ByteArray) ++ slS k = kP k := by decide
  exact h ⟨k, hk⟩
def pDir2 : ByteArray := ⟨#[47, 100, 105, 114, 50]⟩
set_option maxRecDepth 100000 in
theorem kd_spot (K L M : List Int) : ((List.range 26).all fun k => (spotD (gX K L M) (kP k) 0).2.2 == 3) = true := by kernel_rfl
set_option maxRecDepth 100000 in
theorem kd_walk (K L M : List Int) : ((List.range 26).all fun k => (walkP (gX K L M) (kP k)).2 == 3) = true := by kernel_rfl
set_option maxRecDepth 100000 in
theorem kd_top (K L M : List Int) : statD (gX K L M) pTop = (⟨5, 1, 1, M, [], []⟩, 0) := by kernel_rfl
set_option maxRecDepth 100000 in
theorem kd_dir (K L M : List Int) : statD (gX K L M) pDir = (⟨2, 2, 1, [], [(nOne, 3), (nTwo, 4)], []⟩, 0) := by kernel_rfl
set_option maxRecDepth 100000 in
theorem kd_par : ((parentOf pDir.data.toList).2.2 && ((parentOf pTop.data.toList).2.2 && (parentOf pDir2.data.toList).2.2)) = true := by kernel_rfl
theorem kd_pars : (parentOf pDir.data.toList).2.2 = true ∧ (parentOf pTop.data.toList).2.2 = true ∧ (parentOf pDir2.data.toList).2.2 = true := by
  have h := kd_par
  simpa only [Bool.and_eq_true] using h
theorem kd_unl {K L M : List Int} (ht : treeD 6 (gX K L M) = true) : (unlinkD 6 (gX K L M) pDir).2 = 3 := by
  unfold unlinkD
  rw [gX_dir, if_neg (by rw [ht, kd_pars.1]; simp), if_pos (by decide)]
theorem kd_rem {K L M : List Int} (ht : treeD 6 (gX K L M) = true) : (removeD 6 (gX K L M) pTop).2 = 3 := by
  unfold removeD
  rw [kd_top, if_neg (by rw [ht, kd_pars.2.1]; simp), if_neg (by simp), if_pos (by simp)]
theorem kd_link {K L M : List Int} (ht : treeD 6 (gX K L M) = true) : (linkD 6 (gX K L M) pDir pDir2).2 = 3 := by
  unfold linkD
  rw [gX_dir, if_neg (by rw [ht, kd_pars.2.2, paths_ok.2.2.2]; simp), if_pos (by decide)]
theorem kd_make {K L M : List Int} (ht : treeD 6 (gX K L M) = true) {k : Nat} (hk : k < 26) : (makeD 6 (gX K L M) (kP k) 1).2.2 = 3 := by
  have h : (spotD (gX K L M) (kP k) 0).2.2 = 3 := by simpa using range_all (kd_spot K L M) hk
  unfold makeD
  rw [h, if_neg (by rw [ht]; simp), if_neg (by rintro ⟨h1, _⟩; exact absurd h1 (by decide)), if_pos (by decide)]
set_option maxHeartbeats 800000 in
theorem slashI (a : Option Addr) (n cap i : Nat) (ys : List Int) (w : World) (hyl : ys.length = n) (hn20 : n ≤ 1048576) (hi : i ≤ 1000) (hyr : Rd w a ys) (hyb : Byt ys) :
    Calls Tryz.prog 39 #[.slice a n cap, .int .i64 i] w fun e w' => e = .returned (.string (slS (atV8 ys n i % 26))) ∧ Below w.heap.size w w' := by
  have hA := at8_any a n cap ys i w hyl hn20 hi hyr hyb
  have hv255 := atV8_le ys n i hyb
  obtain ⟨v, hv⟩ : ∃ v, atV8 ys n i = v := ⟨_, rfl⟩
  rw [hv] at hA hv255 ⊢
  obtain ⟨k, hk⟩ : ∃ k, v % 26 = k := ⟨_, rfl⟩
  rw [hk]
  have hkl : k < 26 := by omega
  have hmod : (v : Int) % 26 = (k : Int) := by omega
  have hmod2 : Int.tmod (v : Int) 26 = (k : Int) := by rw [Int.tmod_eq_emod_of_nonneg (by omega)]; exact hmod
  have hw64 : IntKind.i64.wrap (97 + (k : Int)) = 97 + (k : Int) := by rw [IntKind.wrap_i64]; omega
  have hw8 : IntKind.u8.wrap (97 + (k : Int)) = 97 + (k : Int) := by rw [IntKind.wrap_u8]; omega
  have hcv := conv_any (w.alloc (.cells #[.int .u8 (97 + (k : Int))] 5)) (some ⟨w.heap.size, 0, none⟩) 1 1 [97 + (k : Int)] rfl (rd_one w _)
  have hzz := str_one (97 + (k : Int))
  have hfs := slS_eq hkl
  obtain ⟨z, hz⟩ : ∃ z, str [97 + (k : Int)] = z := ⟨_, rfl⟩
  rw [hz] at hcv hzz hfs
  have hlim : ¬ 9223372036854775807 < (⟨#[47]⟩ : ByteArray).size + z.size := by rw [hzz]; decide
  clear hz hv hyr hyb hyl hk
  go_enter Tryz.func39, Tryz.ntmps39
  go_wp2_with fail
  (with_reducible refine hA.mono ?_)
  rintro e w1 ⟨rfl, hw1⟩
  obtain rfl := hw1.symm
  go_wp2
  go_ret
  exact ⟨rfl, (Below.refl _ w).alloc (Nat.le_refl _) _⟩
/-- Behind what was refused: a code. -/
def KRW (w0 : World) (s : Value) (wx : World) : Prop := s = .int .i64 3 ∧ Hid (Below w0.heap.size w0 wx)
theorem krw_al {w0 w9 : World} (h : Below w0.heap.size w0 w9) (o : Obj) : KRW w0 (.int .i64 3) (w9.alloc o) := ⟨rfl, below_al h o⟩
theorem krw_two {w0 w9 : World} {X : Nat} (h : Below w0.heap.size w0 w9) (hX : w0.heap.size ≤ X) (u v : Value) : KRW w0 (.int .i64 3) ((w9.setCell ⟨X, 0, none⟩ u).setCell ⟨X, 1, none⟩ v) := ⟨rfl, below_two h hX u v⟩
set_option maxRecDepth 100000 in
set_option maxHeartbeats 16000000 in
theorem walkFnKinds (a : Option Addr) (n cap : Nat) (zs : List Int) (w : World) (hr : ByteRow w a n cap zs) (het : EtCell w) :
    Calls Tryz.prog 9 #[.slice a n cap] w fun e w' => e = .returned (.bool true) ∧ Below w.heap.size w w' := by
  by_cases hbig : (1048576 : Int) < (n : Int)
  · have hd : decide ((1048576 : Int) < (n : Int)) = true := decide_eq_true hbig
    have hc := big8_any a n cap w
    rw [hd] at hc
    go_enter Tryz.func9, Tryz.ntmps9
    go_wp2_with fail
    (with_reducible refine hc.mono ?_)
    rintro e w1 ⟨rfl, hw1⟩
    obtain rfl := hw1.symm
    go_wp2
    go_ret
    exact ⟨rfl, Below.refl _ _⟩
  have hd : decide ((1048576 : Int) < (n : Int)) = false := decide_eq_false hbig
  have hc := big8_any a n cap w
  rw [hd] at hc
  have HET : Hid _ := het
  have hn20 : n ≤ 1048576 := by omega
  obtain ⟨ys, hyl, hyr, hyb⟩ := rd_of_row hr
  have hG := grownI a n cap ys w hyl hn20 hyr hyb het
  obtain ⟨v, hv⟩ : ∃ v, atV8 ys n 2 = v := ⟨_, rfl⟩
  obtain ⟨p, hp⟩ : ∃ v, atV8 ys n 3 % 50 = v := ⟨_, rfl⟩
  rw [hv, hp] at hG
  have hp50 : p < 50 := by omega
  obtain ⟨k4, hk4⟩ : ∃ k, atV8 ys n 4 % 26 = k := ⟨_, rfl⟩
  obtain ⟨k5, hk5⟩ : ∃ k, atV8 ys n 5 % 26 = k := ⟨_, rfl⟩
  have hl4 : k4 < 26 := by omega
  have hl5 : k5 < 26 := by omega
  have HS4 : Hid (∀ W : World, Below w.heap.size w W → Calls Tryz.prog 39 #[.slice a n cap, .int .i64 4] W fun e w' => e = .returned (.string (slS k4)) ∧ Below W.heap.size W w') := fun W hW => by
    have h := slashI a n cap 4 ys W hyl hn20 (by omega) (hyr.keep hW) hyb
    rw [hk4] at h
    exact h
  have HS5 : Hid (∀ W : World, Below w.heap.size w W → Calls Tryz.prog 39 #[.slice a n cap, .int .i64 5] W fun e w' => e = .returned (.string (slS k5)) ∧ Below W.heap.size W w') := fun W hW => by
    have h := slashI a n cap 5 ys W hyl hn20 (by omega) (hyr.keep hW) hyb
    rw [hk5] at h
    exact h
  clear hd hbig het hk4 hk5 hp hv hr hyl hyr hyb
  go_enter Tryz.func9, Tryz.ntmps9
  go_wp2_with fail
  (with_reducible refine hc.mono ?_)
  rintro e w1 ⟨rfl, hw1⟩
  obtain rfl := hw1.symm
  clear hc
  go_wp2_with fail
  (with_reducible refine hG.mono ?_)
  rintro e w2 ⟨b, m, c, rs, rfl, hTr, hRr, b2⟩
  have bT : Below w2.heap.size w2 (w2.alloc (.cells #[.slice b m c, .int .i64 6] 47)) := (Below.refl _ w2).alloc (Nat.le_refl _) _
  have zT := Blk.new w2 47 #[.slice b m c, .int .i64 6]
  have B2 := b2.trans (bT.mono b2.size)
  have hTr2 := hTr.keep bT
  go_upto_region 4 with fail
  obtain ⟨W2, hW2⟩ : ∃ W, w2.alloc (.cells #[.slice b m c, .int .i64 6] 47) = W := ⟨_, rfl⟩
  rw [hW2] at zT B2 hTr2 ⊢
  obtain ⟨T, hT⟩ : ∃ X, w2.heap.size = X := ⟨_, rfl⟩
  rw [hT] at zT ⊢
  have lK : ([(v : Int), 7] : List Int).length ≤ 100 := by simp
  have lL : ([] : List Int).length ≤ 100 := by simp
  have lM : (gTop p).length ≤ 100 := by rw [gTop_len]; omega
  have htree := gX_tree lK lL lM
  obtain ⟨t1, t2, t3⟩ := tree_facts (nx := 6) (rs := rs) (by rw [hRr]; exact htree)
  have HEW : Hid (∀ W : World, Below W2.heap.size W2 W → EtCell W) := fun W hW => EtCell.keep HET.out (B2.trans (hW.mono B2.size))
  have cA : Hid (∀ W : World, Below W2.heap.size W2 W → Calls Tryz.prog 35 #[.agg #[.slice b m c, .int .i64 6], .string ⟨#[47, 116, 111, 112]⟩] W fun e w' => e = .returned (.tuple #[.slice none 0 0, .int .i64 3]) ∧ Below W.heap.size W w') := fun W hW => listFI b m c 6 rs pTop ⟨5, 1, 1, gTop p, [], []⟩ W (hTr2.keep hW) t1 t2 t3 (HEW.out W hW) (by decide) (by rw [hRr]; exact kd_top _ _ _) rfl
  have cB : Hid (∀ W : World, Below W2.heap.size W2 W → Calls Tryz.prog 34 #[.agg #[.slice b m c, .int .i64 6], .string ⟨#[47, 100, 105, 114]⟩, .int .i64 0, .int .i64 1] W fun e w' => ∃ x y, e = .returned (.tuple #[.slice x 0 y, .int .i64 3]) ∧ Below W.heap.size W w') := fun W hW => by
    have h := readI b m c 6 rs pDir 1 W (hTr2.keep hW) t1 t2 t3 (HEW.out W hW) (by decide) (by omega) (by rw [hRr, kd_dir]; simp)
    have hrd : readD (rs.map InoR.D) pDir 1 = ([], 3) := by
      unfold readD
      rw [hRr, kd_dir]
      rfl
    rw [hrd] at h
    exact h.mono fun e w' ⟨x, y, h1, _, h3⟩ => ⟨x, y, h1, h3⟩
  have cC : Hid (∀ W : World, Below W2.heap.size W2 W → Calls Tryz.prog 36 #[.agg #[.slice b m c, .int .i64 6], .string ⟨#[47, 100, 105, 114]⟩] W fun e w' => ∃ a4 n4 c4 m4, e = .returned (.tuple #[.agg #[.slice a4 n4 c4, .int .i64 m4], .int .i64 3]) ∧ Below W.heap.size W w') := fun W hW => by
    have h := unlinkI b m c 6 rs pDir W (hTr2.keep hW) t2 (HEW.out W hW) (by decide)
    rw [hRr, kd_unl htree] at h
    exact h.mono fun e w' ⟨a4, c4, js, h1, _, h3⟩ => ⟨a4, _, c4, _, h1, h3⟩
  have cD : Hid (∀ W : World, Below W2.heap.size W2 W → Calls Tryz.prog 37 #[.agg #[.slice b m c, .int .i64 6], .string ⟨#[47, 116, 111, 112]⟩] W fun e w' => ∃ a4 n4 c4 m4, e = .returned (.tuple #[.agg #[.slice a4 n4 c4, .int .i64 m4], .int .i64 3]) ∧ Below W.heap.size W w') := fun W hW => by
    have h := removeI b m c 6 rs pTop W (hTr2.keep hW) t2 (HEW.out W hW) (by decide)
    rw [hRr, kd_rem htree] at h
    exact h.mono fun e w' ⟨a4, c4, js, h1, _, h3⟩ => ⟨a4, _, c4, _, h1, h3⟩
  have cE : Hid (∀ W : World, Below W2.heap.size W2 W → Calls Tryz.prog 38 #[.agg #[.slice b m c, .int .i64 6], .string (kP k4)] W fun e w' => ∃ a4 n4 c4 m4, e = .returned (.tuple #[.agg #[.slice a4 n4 c4, .int .i64 m4], .int .i64 3]) ∧ Below W.heap.size W w') := fun W hW => by
    have h := makeFileI b m c 6 rs (kP k4) W (hTr2.keep hW) t2 (HEW.out W hW) (show (kP k4).size ≤ 1048576 from by show (6 : Nat) ≤ _; omega)
    rw [hRr, kd_make htree hl4] at h
    exact h.mono fun e w' ⟨a4, c4, js, h1, _, h3⟩ => ⟨a4, _, c4, _, h1, h3⟩
  have cF : Hid (∀ W : World, Below W2.heap.size W2 W → ∀ g : Nat, Rd W (some ⟨g, 0, none⟩) [1] → Calls Tryz.prog 33 #[.agg #[.slice b m c, .int .i64 6], .string ⟨#[47, 100, 105, 114]⟩, .int .i64 0, .slice (some ⟨g, 0, none⟩) 1 1] W fun e w' => ∃ a4 n4 c4 m4, e = .returned (.tuple #[.agg #[.slice a4 n4 c4, .int .i64 m4], .int .i64 3]) ∧ Below W.heap.size W w') := fun W hW g hg => by
    have h := writeAtI b m c 6 rs pDir ((0 : Nat) : Int) (some ⟨g, 0, none⟩) 1 1 [1] W (hTr2.keep hW) t2 (HEW.out W hW) (by decide) rfl (by omega) hg (fun z hz => by simp at hz; omega)
    rw [hRr, write_bad htree paths_ok.2.2.2 (gX_dir _ _ _) (by decide) (by omega)] at h
    exact h.mono fun e w' ⟨a4, c4, js, h1, _, h3⟩ => ⟨a4, _, c4, _, h1, h3⟩
  have cG : Hid (∀ W : World, Below W2.heap.size W2 W → Calls Tryz.prog 40 #[.agg #[.slice b m c, .int .i64 6], .string ⟨#[47, 100, 105, 114]⟩, .string ⟨#[47, 100, 105, 114, 50]⟩] W fun e w' => ∃ a4 n4 c4 m4, e = .returned (.tuple #[.agg #[.slice a4 n4 c4, .int .i64 m4], .int .i64 3]) ∧ Below W.heap.size W w') := fun W hW => by
    have h := linkI b m c 6 rs pDir pDir2 W (hTr2.keep hW) t2 (HEW.out W hW) (by decide) (by decide)
    rw [hRr, kd_link htree] at h
    exact h.mono fun e w' ⟨a4, c4, js, h1, _, h3⟩ => ⟨a4, _, c4, _, h1, h3⟩
  have cH : Hid (∀ W : World, Below W2.heap.size W2 W → Calls Tryz.prog 41 #[.agg #[.slice b m c, .int .i64 6], .string (kP k5)] W fun e w' => ∃ x : Int, e = .returned (.tuple #[.int .i64 x, .int .i64 3]) ∧ Below W.heap.size W w') := fun W hW => by
    have h := walkCI b m c 6 rs (kP k5) W (hTr2.keep hW) t1 t2 t3 (HEW.out W hW) (show (kP k5).size ≤ 4000000 from by show (6 : Nat) ≤ _; omega)
    have h3 : (walkP (gX [(v : Int), 7] [] (gTop p)) (kP k5)).2 = 3 := by simpa using range_all (kd_walk _ _ _) hl5
    rw [hRr, h3] at h
    exact h.mono fun e w' ⟨h1, h2⟩ => ⟨_, h1, h2⟩
  have HZ : Hid (∀ W : World, Below W2.heap.size W2 W → W.cell? ⟨T, 0, none⟩ = some (.slice b m c) ∧ W.cell? ⟨T, 1, none⟩ = some (.int .i64 6)) := fun W hW => ⟨(zT.keep hW).cell 0, (zT.keep hW).cell 1⟩
  have hTl : T < W2.heap.size := zT.lt
  have hq4 := kP_eq hl4
  have hq5 := kP_eq hl5
  have HBW : Hid (∀ W : World, Below W2.heap.size W2 W → Below w.heap.size w W) := fun W hW => B2.trans (hW.mono B2.size)
  have hz4 : (slS k4).size = 2 := rfl
  have hz5 : (slS k5).size = 2 := rfl
  obtain ⟨s4, hs4⟩ : ∃ s, slS k4 = s := ⟨_, rfl⟩
  obtain ⟨s5, hs5⟩ : ∃ s, slS k5 = s := ⟨_, rfl⟩
  rw [hs4] at HS4 hq4 hz4
  rw [hs5] at HS5 hq5 hz5
  obtain ⟨P4, hP4⟩ : ∃ s, kP k4 = s := ⟨_, rfl⟩
  obtain ⟨P5, hP5⟩ : ∃ s, kP k5 = s := ⟨_, rfl⟩
  rw [hP4] at cE hq4
  rw [hP5] at cH hq5
  have hlm4 : ¬ 9223372036854775807 < (⟨#[47, 116, 111, 112]⟩ : ByteArray).size + s4.size := by rw [hz4]; decide
  have hlm5 : ¬ 9223372036854775807 < (⟨#[47, 116, 111, 112]⟩ : ByteArray).size + s5.size := by rw [hz5]; decide
  clear hTr hTr2 hRr htree t1 t2 t3 hW2 hT bT b2 zT hs4 hs5 hP4 hP5 hz4 hz5 hl4 hl5 lK lL lM hG B2 HET HEW hp50
  obtain ⟨z0, z1⟩ := HZ.out W2 (Below.refl _ _)
  go_wp2_with fail
  (with_reducible refine (cA.out W2 (Below.refl _ _)).mono ?_)
  rintro e w3 ⟨rfl, b3⟩
  clear z0 z1
  obtain ⟨z0, z1⟩ := HZ.out w3 b3
  go_wp2_with fail
  (with_reducible refine (cB.out w3 b3).mono ?_)
  rintro e w4 ⟨xb, yb, rfl, b4⟩
  have E4 := b3.trans (b4.mono b3.size)
  clear z0 z1 b3 b4 cA cB
  obtain ⟨z0, z1⟩ := HZ.out w4 E4
  go_wp2_with fail
  (with_reducible refine (cC.out w4 E4).mono ?_)
  rintro e w5 ⟨a5, n5, c5, m5, rfl, b5⟩
  have E5 : Below W2.heap.size W2 (w5.alloc (.cells #[.slice a5 n5 c5, .int .i64 m5] 47)) := (E4.trans (b5.mono E4.size)).alloc (Nat.le_trans E4.size b5.size) _
  clear z0 z1 b5 E4 cC
  obtain ⟨z0, z1⟩ := HZ.out _ E5
  go_wp2_with fail
  (with_reducible refine (cD.out _ E5).mono ?_)
  rintro e w6 ⟨a6, n6, c6, m6, rfl, b6⟩
  have E6 : Below W2.heap.size W2 (w6.alloc (.cells #[.slice a6 n6 c6, .int .i64 m6] 47)) := (E5.trans (b6.mono E5.size)).alloc (Nat.le_trans E5.size b6.size) _
  clear z0 z1 b6 E5 cD
  go_upto_region 8 with fail
  obtain ⟨W6, hW6⟩ : ∃ W, w6.alloc (.cells #[.slice a6 n6 c6, .int .i64 m6] 47) = W := ⟨_, rfl⟩
  rw [hW6] at E6 ⊢
  clear hW6
  obtain ⟨z0, z1⟩ := HZ.out W6 E6
  obtain ⟨y0, y1⟩ := HZ.out W6.drew E6.drew
  have hs6 := E6.size
  go_cut [14] (fun s wx => KRW W2 s wx)
  case first =>
    have nT5 : ¬ T = W6.heap.size := by omega
    have nT6 : ¬ W6.heap.size = T := by omega
    obtain ⟨v0, v1⟩ := HZ.out (W6.alloc (.cells #[.slice none 0 0, .int .i64 0] 47)) (below_al E6 _)
    obtain ⟨v2, v3⟩ := HZ.out (W6.alloc (.cells #[.slice none 0 0, .int .i64 0] 47)).drew (below_al E6 _).drew
    obtain ⟨v4, v5⟩ := HZ.out (W6.drew.alloc (.cells #[.slice none 0 0, .int .i64 0] 47)) (below_al E6.drew _)
    go_region_with (first
      | (go_at_call 39; (with_reducible refine (HS4.out _ (HBW.out _ (by first | with_reducible exact E6.drew | with_reducible exact (below_al E6 _).drew | with_reducible exact below_al E6.drew _))).mono ?_); rintro e w8 ⟨rfl, b8⟩; have E8 : Below W2.heap.size W2 w8 := below_tr (by first | with_reducible exact E6.drew | with_reducible exact (below_al E6 _).drew | with_reducible exact below_al E6.drew _) b8; obtain ⟨q0, q1⟩ := HZ.out w8 E8; obtain ⟨q2, q3⟩ := HZ.out (w8.alloc (.cells #[.slice none 0 0, .int .i64 0] 47)) (below_al E8 _); have hs8 := b8.size; (try simp at hs8); have hT8 : T < w8.heap.size := Nat.lt_of_lt_of_le hTl E8.size; have nT1 : ¬ T = w8.heap.size := (by omega); have nT2 : ¬ w8.heap.size = T := (by omega); (first | (with_reducible (have kA : Blk w8 W6.heap.size 47 #[.slice none 0 0, .int .i64 0] := Blk.keep (W := (W6.alloc (.cells #[.slice none 0 0, .int .i64 0] 47)).drew) (Blk.drew (Blk.newAt rfl)) b8)) | skip))
      | (go_at_call 38; (with_reducible refine (cE.out _ (by first | with_reducible exact E8 | with_reducible exact below_al E8 _)).mono ?_); rintro e w9 ⟨a9, n9, c9, m9, rfl, b9⟩; have E9 : Below W2.heap.size W2 w9 := below_tr (by first | with_reducible exact E8 | with_reducible exact below_al E8 _) b9; have hs9 := b9.size; (try simp at hs9); (first | (with_reducible (have kB : Blk w9 w8.heap.size 47 #[.slice none 0 0, .int .i64 0] := Blk.keep (W := w8.alloc (.cells #[.slice none 0 0, .int .i64 0] 47)) (Blk.newAt rfl) b9)) | skip); (try (have kA := kA.keep (by with_reducible exact b9))); (try (have lkA := kA.lt; have p1kA := kA.cell 0; have p2kA := kA.cell 1; (simp at p1kA p2kA); have f1kA := kA.frozen 0; have f2kA := kA.frozen 1)); (try (have lkB := kB.lt; have p1kB := kB.cell 0; have p2kB := kB.cell 1; (simp at p1kB p2kB); have f1kB := kB.frozen 0; have f2kB := kB.frozen 1))))
    all_goals (go_wp2_with fail; go_meet; have hsE := E8.size; first | (with_reducible exact krw_al E9 _) | (with_reducible exact krw_two E9 hs6 _ _) | (with_reducible exact krw_two E9 hsE _ _) | fail)
  case rest =>
  obtain ⟨rfl, E9⟩ := hcut
  obtain ⟨W9, hwc⟩ : ∃ W, W = wc := ⟨_, rfl⟩
  subst hwc
  clear z0 z1 y0 y1 hs6 E6 cE HS4 hq4 hlm4
  have F9 : Below W2.heap.size W2 (W9.alloc (.cells #[.int .u8 1] 5)) := below_al E9.out _
  obtain ⟨z0, z1⟩ := HZ.out W9 E9.out
  have hT9 : T < W9.heap.size := Nat.lt_of_lt_of_le hTl E9.out.size
  go_wp2_with fail
  (with_reducible refine (cF.out _ F9 W9.heap.size (rd_one W9 1)).mono ?_)
  rintro e w10 ⟨a10, n10, c10, m10, rfl, b10⟩
  have E10 : Below W2.heap.size W2 (w10.alloc (.cells #[.slice a10 n10 c10, .int .i64 m10] 47)) := (F9.trans (b10.mono F9.size)).alloc (Nat.le_trans F9.size b10.size) _
  clear z0 z1 b10 F9 cF hT9 E9
  obtain ⟨z0, z1⟩ := HZ.out _ E10
  go_wp2_with fail
  (with_reducible refine (cG.out _ E10).mono ?_)
  rintro e w11 ⟨a11, n11, c11, m11, rfl, b11⟩
  have E11 : Below W2.heap.size W2 (w11.alloc (.cells #[.slice a11 n11 c11, .int .i64 m11] 47)) := (E10.trans (b11.mono E10.size)).alloc (Nat.le_trans E10.size b11.size) _
  clear z0 z1 b11 E10 cG
  go_upto_region 11 with fail
  obtain ⟨W11, hW11⟩ : ∃ W, w11.alloc (.cells #[.slice a11 n11 c11, .int .i64 m11] 47) = W := ⟨_, rfl⟩
  rw [hW11] at E11 ⊢
  clear hW11
  obtain ⟨z0, z1⟩ := HZ.out W11 E11
  obtain ⟨y0, y1⟩ := HZ.out W11.drew E11.drew
  go_cut [20] (fun s wx => KRW W2 s wx)
  case first =>
    go_region_with (first
      | (go_at_call 39; (with_reducible refine (HS5.out _ (HBW.out _ E11.drew)).mono ?_); rintro e w12 ⟨rfl, b12⟩; have E12 : Below W2.heap.size W2 w12 := below_tr E11.drew b12; obtain ⟨q0, q1⟩ := HZ.out w12 E12)
      | (go_at_call 41; (with_reducible refine (cH.out _ E12).mono ?_); rintro e w13 ⟨x13, rfl, b13⟩; have E13 : Below W2.heap.size W2 w13 := below_tr E12 b13))
    all_goals (go_wp2_with fail; go_meet; exact ⟨rfl, E13⟩)
  case rest =>
  obtain ⟨rfl, E13⟩ := hcut
  obtain ⟨W13, hwc⟩ : ∃ W, W = wc := ⟨_, rfl⟩
  subst hwc
  have HF : Hid _ := HBW.out W13 E13.out
  clear z0 z1 y0 y1 E11 E13 cH HS5 HZ HBW hq5 hlm5
  go_wp2
  go_ret
  exact ⟨rfl, HF.out⟩
end Go.Proofs.YtbjfihabkpianaaGreatDoor

