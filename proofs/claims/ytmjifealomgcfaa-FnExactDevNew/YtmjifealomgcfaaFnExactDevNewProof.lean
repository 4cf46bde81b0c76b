/-
  At every number and every list of faults the program's DevNew answers as the specification's, every field, writes into no argument, and its answer owns its memory: with no condition.
  The frame is the one that the guide's own program writes for a law over one []byte, turned to this law's parameters.
-/
import Derived.Test.YtmjifealomgcfaaRows
import Derived.Test.YtmjifealomgcfaaJ12V
import Derived.Test.YtmjifealomgcfaaJ25V
import Derived.WalkKit
import Derived.ProofKit
import Derived.OpenShut
import Derived.ShutString
import Derived.ChangeOld
import Derived.Below
namespace Go.Proofs.Ytmjifealomgcfaa.fnExactDevNew
open Go.ChangeShapes Go.WideShapes Go.ChangeAt Go.RowKit
open Go.ChangeMaps (open_string shut_string)
set_option linter.unusedVariables false

theorem own : ownKnob Try.prog.godebug = none := by kernel_rfl
theorem laidOut : laidOutB Try.prog = true := by kernel_rfl

/-! ### STEP 1: THE WALK: the Go text returns true, AND WRITES NOTHING THAT WAS THERE: 'Below w.heap.size w w'' (Derived/Below.lean: '.refl', '.alloc', '.drew', '.setCell' at a new block, '.trans'). Open each 'IsRow' by 'rcases' AHEAD of 'go_enter'; part every test ahead of the walk. -/
set_option maxRecDepth 100000 in
set_option maxHeartbeats 16000000 in
theorem walk (x0 : Int) (fa : Option Addr) (fc : Nat) (fs : List FtD) (w : World) (hwx : (Lit.int .i64 x0).wf = true) (hfm : fs.length ≤ maxLen) (hrf : RdFa w fa fs) :
    Calls Try.prog 3 #[.int .i64 x0, .slice fa fs.length fc] w fun e w' => e = .returned (.bool true) ∧ Below w.heap.size w w' := by
  clear hwx
  obtain ⟨m, hnf⟩ : ∃ m, fs.length = m := ⟨_, rfl⟩
  rw [hnf] at hfm ⊢
  go_enter Try.func3, Try.ntmps3
  go_wp2_with fail
  refine (szFaultS_w fa m fc 1048576 w hfm (by omega)).mono ?_
  rintro e w0 ⟨hsz, hw0⟩
  obtain rfl := hw0.symm
  rcases hsz with rfl | ⟨x, hx, rfl, _⟩
  · go_wp2
    go_ret
    exact ⟨rfl, Below.refl _ _⟩
  have hxn : ¬ (x : Int) < 0 := by omega
  have hmt : Hid (m ≤ 1048576) := by show _ ≤ _; omega
  have HF : Hid (∀ W : World, Below w.heap.size w W → FR W fa m fs) := fun W h => ⟨hnf, hmt.out, hrf.keep h⟩
  have CA : Hid (∀ (W : World), FR W fa m fs → _) := fun (W : World) (h : FR W fa m fs) => toFaultS_any fa m fc fs W h
  have hDt : totB (devN x0 fs).ds ≤ 1048576 := by
    unfold devN
    split
    · exact newD_tot x0
    · simp [totB]
  have hDf : (devN x0 fs).fs.length ≤ m := by
    unfold devN
    split
    · exact Nat.le_of_eq hnf
    · simp
  have cS0 := fun (W : World) (g : Nat) (h : FR W (some ⟨g, 0, none⟩) m fs) => devNewS x0 (some ⟨g, 0, none⟩) m m fs W h
  have cI0 := fun (W : World) (g : Nat) (h : FR W (some ⟨g, 0, none⟩) m fs) => devNewI x0 (some ⟨g, 0, none⟩) m m fs W h
  generalize devN x0 fs = D at hDt hDf cS0 cI0
  obtain ⟨dE, oE, fE, wE⟩ := D
  dsimp only at hDt hDf
  obtain ⟨n, hn⟩ : ∃ n, dE.length = n := ⟨_, rfl⟩
  obtain ⟨k, hk⟩ : ∃ k, fE.length = k := ⟨_, rfl⟩
  rw [hk] at hDf
  have cS : ∀ (W : World) (g : Nat), FR W (some ⟨g, 0, none⟩) m fs → Calls Try.prog 8 #[.int .i64 x0, .slice (some ⟨g, 0, none⟩) m m] W fun e w' => ∃ a c f l qs, e = .returned (.agg #[.slice a n c, .int .i64 oE, .slice f k l, .bool wE]) ∧ NewDv w' W.heap.size a n c f k l dE fE qs ∧ Below W.heap.size W w' := fun W g h => (cS0 W g h).mono fun e w' hA => by
    obtain ⟨a, i, c, f, j, l, qs, e1, e2, e3, e4⟩ := hA
    dsimp only at e1 e2
    have hi : i = n := by rw [← e3, e2.bs.len, hn]
    have hj : j = k := by rw [← OwnE.len e2.fs, hk]
    subst hi hj
    exact ⟨a, c, f, l, qs, e1, e2, e4⟩
  have cI : ∀ (W : World) (g : Nat), FR W (some ⟨g, 0, none⟩) m fs → Calls Try.prog 10 #[.int .i64 x0, .slice (some ⟨g, 0, none⟩) m m] W fun e w' => ∃ a c f l qs, e = .returned (.agg #[.slice a n c, .int .i64 oE, .slice f k l, .bool wE]) ∧ NewDv w' W.heap.size a n c f k l dE fE qs ∧ Below W.heap.size W w' := fun W g h => (cI0 W g h).mono fun e w' hA => by
    obtain ⟨a, i, c, f, j, l, qs, e1, e2, e3, e4⟩ := hA
    dsimp only at e1 e2
    have hi : i = n := by rw [← e3, e2.bs.len, hn]
    have hj : j = k := by rw [← OwnE.len e2.fs, hk]
    subst hi hj
    exact ⟨a, c, f, l, qs, e1, e2, e4⟩
  have hcb : Hid (∀ ts : List BkR, ts.map BkR.D = dE → 1 + cBs ts + 3 * k ≤ 9999990) := fun ts h => by
    have := cBs_le ts
    rw [h] at this
    have h3 := hmt.out
    omega
  have HE : Hid (dE.length = n) := hn
  have HT : Hid (totB dE ≤ 4000000) := by show _ ≤ _; omega
  have HK : Hid (k ≤ 1048576) := by show _ ≤ _; have := hmt.out; omega
  have CS : Hid _ := cS
  have CI : Hid _ := cI
  clear cS0 cI0 cS cI hn hk hDt hDf hnf hrf
  have hww : w.heap.size ≤ w.heap.size := Nat.le_refl _
  go_wp2_with fail
  refine (CA.out w (HF.out _ (Below.refl _ _))).mono ?_
  rintro e w1 ⟨rfl, oA, b1⟩
  go_wp2_with fail
  refine (CS.out w1 _ (OwnFa.fr oA hmt.out)).mono ?_
  rintro e w2 ⟨aS, cS, fS, lS, tS, rfl, qS, b2⟩
  have B2 := b1.trans (b2.mono b1.size)
  have b3 : Below w2.heap.size w2 (w2.alloc (.cells #[.slice aS n cS, .int .i64 oE, .slice fS k lS, .bool wE] 29)) := (Below.refl _ w2).alloc (Nat.le_refl _) _
  have s3 := Blk.new w2 29 #[.slice aS n cS, .int .i64 oE, .slice fS k lS, .bool wE]
  clear oA b1 b2
  go_wp2_with fail
  obtain ⟨W3, hW3⟩ : ∃ W, w2.alloc (.cells #[.slice aS n cS, .int .i64 oE, .slice fS k lS, .bool wE] 29) = W := ⟨_, rfl⟩
  rw [hW3] at b3 s3 ⊢
  clear hW3
  obtain ⟨GS, hGS⟩ : ∃ G, w2.heap.size = G := ⟨_, rfl⟩
  have hSl : Hid (∀ g ∈ fpDv aS n cS fS k lS tS, g < GS) := fun g hg => by rw [← hGS]; exact qS.lt g hg
  have hGSw : w.heap.size ≤ GS := by rw [← hGS]; exact B2.size
  rw [hGS] at s3 ⊢
  have B3 := B2.trans (b3.mono B2.size)
  have qS3 := qS.keep b3
  clear qS b3 B2 hGS
  refine (CA.out W3 (HF.out _ B3)).mono ?_
  rintro e w4 ⟨rfl, oX, b4⟩
  have hGS3 := s3.lt
  obtain ⟨GX, hGX⟩ : ∃ G, W3.heap.size = G := ⟨_, rfl⟩
  rw [hGX] at oX hGS3 ⊢
  have hGX4 : GX < w4.heap.size := OwnE.lt oX (g := GX) rfl
  have qS4 := qS3.keep b4
  have s4 := s3.keep b4
  have B4 := B3.trans (b4.mono B3.size)
  clear qS3 s3 b4 B3 hGX
  go_wp2_with fail
  refine (CI.out w4 _ (OwnFa.fr oX hmt.out)).mono ?_
  rintro e w5 ⟨aI, cI, fI, lI, tI, rfl, qI, b5⟩
  have hIl : Hid (∀ g ∈ fpDv aI n cI fI k lI tI, GX < g ∧ g < w5.heap.size) := fun g hg => ⟨by have := qI.from g hg; omega, qI.lt g hg⟩
  have b6 : Below w5.heap.size w5 (w5.alloc (.cells #[.slice aI n cI, .int .i64 oE, .slice fI k lI, .bool wE] 29)) := (Below.refl _ w5).alloc (Nat.le_refl _) _
  have i6 := Blk.new w5 29 #[.slice aI n cI, .int .i64 oE, .slice fI k lI, .bool wE]
  have B5 := B4.trans (b5.mono B4.size)
  have s6 := (s4.keep b5).keep b6
  have hGI0 := b5.size
  have qS6 := (qS4.keep b5).keep b6
  have oX6 := OwnE.keep (OwnE.keep oX b5) b6
  have qI6 := qI.keep b6
  have B6 := B5.trans (b6.mono B5.size)
  have u0 := (s6).cell 0
  have u1 := (s6).cell 1
  have u2 := (s6).cell 2
  have u3 := (s6).cell 3
  simp at u0 u1 u2 u3
  clear qS4 s4 oX qI b5 B4
  go_wp2_with fail
  obtain ⟨W6, hW6⟩ : ∃ W, w5.alloc (.cells #[.slice aI n cI, .int .i64 oE, .slice fI k lI, .bool wE] 29) = W := ⟨_, rfl⟩
  rw [hW6] at b6 i6 s6 qS6 oX6 qI6 B6 ⊢
  clear hW6 u0 u1 u2 u3
  obtain ⟨GI, hGI⟩ : ∃ G, w5.heap.size = G := ⟨_, rfl⟩
  rw [hGI] at i6 hIl hGI0 ⊢
  have hGXI : GX < GI := by omega
  clear hGI b6 B5
  refine (eqDv oE wE HE.out HT.out HK.out qI6 qS6).mono ?_
  rintro e w7 ⟨rfl, b7⟩
  have s7 := s6.keep b7
  have i7 := i6.keep b7
  have qS7 := qS6.keep b7
  have qI7 := qI6.keep b7
  have oX7 := OwnE.keep oX6 b7
  have B7 := B6.trans (b7.mono B6.size)
  clear s6 i6 qS6 qI6 oX6 B6 b7
  go_wp2_with fail
  refine (CA.out w7 (HF.out _ B7)).mono ?_
  rintro e w8 ⟨rfl, oY, b8⟩
  have s8 := s7.keep b8
  have i8 := i7.keep b8
  have qS8 := qS7.keep b8
  have qI8 := qI7.keep b8
  have oX8 := OwnE.keep oX7 b8
  have B8 := B7.trans (b8.mono B7.size)
  clear s7 i7 qS7 qI7 oX7 B7
  go_wp2_with fail
  refine (eqFaultS_same _ _ m m m fs w8 (OwnFa.fr oX8 hmt.out) (OwnFa.fr oY hmt.out)).mono ?_
  rintro e w9 ⟨rfl, b9⟩
  have s9 := s8.keep b9
  have i9 := i8.keep b9
  have qS9 := qS8.keep b9
  have qI9 := qI8.keep b9
  have oX9 := OwnE.keep oX8 b9
  have B9 := B8.trans (b9.mono B8.size)
  clear s8 i8 qS8 qI8 oX8 B8 b8 b9 oY
  go_wp2_with fail
  refine (markFaultS_any (.slice (some ⟨GX, 0, none⟩) m m) m 1 fs w9 (Nat.le_refl _) (by have := hmt.out; omega) oX9).mono ?_
  rintro e w10 ⟨rfl, _, sv10⟩
  have hno : ∀ {F : List Nat}, (∀ g ∈ F, g ≠ GX) → ∀ g ∈ F, g ∉ (Value.slice (some ⟨GX, 0, none⟩) m m).ownBlock.toList := fun h g hg hf => by
    simp [Value.ownBlock] at hf
    exact h g hg hf
  have qS10 := qS9.svs sv10 (hno fun g hg => by have := hSl.out g hg; omega)
  have qI10 := qI9.svs sv10 (hno fun g hg => by have := hIl.out g hg; omega)
  have s10 := Blk.svs s9 sv10 (fun hf => by simp [Value.ownBlock] at hf; omega)
  have i10 := Blk.svs i9 sv10 (fun hf => by simp [Value.ownBlock] at hf; omega)
  have B10 : Below w.heap.size w w10 := Below.svs B9 sv10 (fun g hg => by simp [Value.ownBlock] at hg; omega) (Nat.le_refl _)
  obtain ⟨Q, hQ⟩ : ∃ Q, 1 + 3 * m = Q := ⟨_, rfl⟩
  rw [hQ]
  have hQ0 : ¬ (Q : Int) < 0 := by omega
  clear hQ sv10 hno s9 i9 qS9 qI9 oX9 B9
  have u0 := (s10).cell 0
  have u1 := (s10).cell 1
  have u2 := (s10).cell 2
  have u3 := (s10).cell 3
  simp at u0 u1 u2 u3
  have v0 := (i10).cell 0
  have v1 := (i10).cell 1
  have v2 := (i10).cell 2
  have v3 := (i10).cell 3
  simp at v0 v1 v2 v3
  go_wp2_with fail
  refine (eqDv oE wE HE.out HT.out HK.out qI10 qS10).mono ?_
  rintro e w11 ⟨rfl, b11⟩
  have s11 := s10.keep b11
  have i11 := i10.keep b11
  have qS11 := qS10.keep b11
  have qI11 := qI10.keep b11
  have B11 := B10.trans (b11.mono B10.size)
  clear s10 i10 qS10 qI10 B10 b11 u0 u1 u2 u3 v0 v1 v2 v3
  have v0 := (i11).cell 0
  have v1 := (i11).cell 1
  have v2 := (i11).cell 2
  have v3 := (i11).cell 3
  simp at v0 v1 v2 v3
  have hcbI := hcb.out tI qI11.bs.D
  go_wp2_with fail
  refine (markDv_any oE wE hcbI qI11).mono ?_
  rintro e w12 ⟨rfl, oI, sv12⟩
  have qS12 := qS11.svs sv12 (fun g hg hf => by have := hSl.out g hg; have := hIl.out g hf; omega)
  have s12 := Blk.svs s11 sv12 (fun hf => by have := hIl.out GS hf; omega)
  have i12 := Blk.svs i11 sv12 (fun hf => by have := hIl.out GI hf; omega)
  have B12 : Below w.heap.size w w12 := Below.svs B11 sv12 (fun g hg => by have := hIl.out g hg; omega) (Nat.le_refl _)
  obtain ⟨M, hM⟩ : ∃ M, 1 + cBs tI + 3 * k = M := ⟨_, rfl⟩
  have CH : Hid (∀ W : World, MkDv W (.slice aI n cI) k lI fI tI → Calls Try.prog 15 #[.agg #[.slice aI n cI, .int .i64 oE, .slice fI k lI, .bool wE], .int .i64 1] W fun e w' => e = .returned (.int .i64 (M : Int)) ∧ Below W.heap.size W w') := fun W h => heldDv_any oE wE M hM hcbI h
  rw [hM]
  have hM0 : ¬ (M : Int) < 0 := by omega
  have hMM : ((M : Int) != (M : Int)) = false := by simp
  clear hM hcbI sv12 s11 i11 qS11 qI11 B11 v0 v1 v2 v3
  have v0 := (i12).cell 0
  have v1 := (i12).cell 1
  have v2 := (i12).cell 2
  have v3 := (i12).cell 3
  simp at v0 v1 v2 v3
  go_wp2_with fail
  refine (CH.out w12 oI).mono ?_
  rintro e w13 ⟨rfl, b13⟩
  have s13 := s12.keep b13
  have i13 := i12.keep b13
  have qS13 := qS12.keep b13
  have oI13 := oI.keep b13
  have B13 := B12.trans (b13.mono B12.size)
  clear s12 i12 qS12 oI B12 b13 v0 v1 v2 v3
  go_wp2_with fail
  refine (CA.out w13 (HF.out _ B13)).mono ?_
  rintro e w14 ⟨rfl, oZ, b14⟩
  have s14 := s13.keep b14
  have i14 := i13.keep b14
  have qS14 := qS13.keep b14
  have oI14 := oI13.keep b14
  have B14 := B13.trans (b14.mono B13.size)
  clear s13 i13 qS13 oI13 B13 b14
  go_wp2_with fail
  refine (CI.out w14 _ (OwnFa.fr oZ hmt.out)).mono ?_
  rintro e w15 ⟨aJ, cJ, fJ, lJ, tJ, rfl, qJ, b15⟩
  have b16 : Below w15.heap.size w15 (w15.alloc (.cells #[.slice aJ n cJ, .int .i64 oE, .slice fJ k lJ, .bool wE] 29)) := (Below.refl _ w15).alloc (Nat.le_refl _) _
  have s16 := (s14.keep b15).keep b16
  have i16 := (i14.keep b15).keep b16
  have qS16 := (qS14.keep b15).keep b16
  have oI16 := (oI14.keep b15).keep b16
  have qJ16 := qJ.keep b16
  have B15 := B14.trans (b15.mono B14.size)
  have B16 := B15.trans (b16.mono B15.size)
  have u0 := (s16).cell 0
  have u1 := (s16).cell 1
  have u2 := (s16).cell 2
  have u3 := (s16).cell 3
  simp at u0 u1 u2 u3
  clear s14 i14 qS14 oI14 B14 b15 qJ oZ
  go_wp2_with fail
  obtain ⟨W16, hW16⟩ : ∃ W, w15.alloc (.cells #[.slice aJ n cJ, .int .i64 oE, .slice fJ k lJ, .bool wE] 29) = W := ⟨_, rfl⟩
  rw [hW16] at s16 i16 qS16 oI16 qJ16 B16 ⊢
  clear hW16 b16 B15 u0 u1 u2 u3
  refine (eqDv oE wE HE.out HT.out HK.out qJ16 qS16).mono ?_
  rintro e w17 ⟨rfl, b17⟩
  have i17 := i16.keep b17
  have oI17 := oI16.keep b17
  have B17 := B16.trans (b17.mono B16.size)
  clear s16 i16 qS16 qJ16 oI16 B16 b17
  have v0 := (i17).cell 0
  have v1 := (i17).cell 1
  have v2 := (i17).cell 2
  have v3 := (i17).cell 3
  simp at v0 v1 v2 v3
  go_wp2_with fail
  refine (CH.out w17 oI17).mono ?_
  rintro e w18 ⟨rfl, b18⟩
  have B18 := B17.trans (b18.mono B17.size)
  clear i17 oI17 B17 b18 v0 v1 v2 v3
  go_wp2
  go_ret
  exact ⟨rfl, B18⟩

/-! ### THE ROW's STEP: WRITTEN OUT: LEAVE IT -/
set_option maxRecDepth 100000 in
theorem lifted (os : Os) (started : os.Started) (H : Type) (enc : TypeId × Value → H) :
    ReturnsInHanded {} Try.checked os 3 .any (Rows.fnExactDevNewSpec.pre6 enc Try.prog Try.f3 Rows.fnExactDevNewRow.domain false) (Rows.fnExactDevNewSpec.post enc Try.prog Try.f3 false true false false) := by
  refine returnsInHanded_of_change (C := Try.checked) own started (by kernel_rfl) Try.func3
    (ChangeSpec.witness6 (enc := enc) (C := Try.checked) false ⟨#[], #[.int .i64 0, .slice none 0 0], []⟩ 8 (by kernel_rfl) (by kernel_rfl) (by kernel_rfl) (by kernel_rfl)) ?_
  intro W base args ds gs before hval0 hW hcnd _
  have hval : ∀ (j : Nat) t v, Try.f3.params[j]? = some t → args[j]? = some v → Value.okWide Try.prog W .any base t v := hval0
  have hW' := hW
  obtain ⟨p, q, hA0, hV, rfl, hfz, hnd⟩ := hW
  have hA : DataW.TrodAll enc Try.prog W 0 (fun _ => true) true Try.f3.params.toList args.toList ds p := hA0
  rw [Try.params3] at hA hval
  obtain ⟨v0, vs0, d0, ds0, p0, q0, hargs, rfl, rfl, h0, r0⟩ := trodAll_cons hA
  obtain ⟨v1, vs1, d1, ds1, p1, q1, rfl, rfl, rfl, h1, r1⟩ := trodAll_cons r0
  obtain ⟨rfl, rfl, rfl⟩ := trodAll_nil r1
  obtain rfl : args = #[v0, v1] := by cases args; simp_all
  obtain ⟨rfl, rfl⟩ := trodVars_none hV
  obtain ⟨s0, rfl, rfl, rfl, w0⟩ := open_int Try.underlying3 (hval 0 3 v0 rfl rfl) h0
  have k1 := h1
  have lt1 : ∀ x ∈ p1, x.block < W.heap.size := by obtain ⟨m, hm⟩ := k1; exact DataW.trod_lt m _ _ _ hm
  obtain ⟨x1, c1, rs1, rfl, m1, w1⟩ := open_faults (hval 1 22 v1 rfl rfl) h1
  clear hA0 hval0
  refine (walk s0 x1 c1 rs1 W w0 m1 w1).mono fun e W' ⟨he, bel⟩ => ?_
  subst he
  exact ⟨_, rfl, _, _, _, [], _, [], hW', trodAll_mk1 (shut_bool Try.underlying4 _), (trodAll_cons_mk (shut_int Try.underlying3 w0) (trodAll_cons_mk (Below.trod laidOut (by kernel_rfl) (of_decide_eq_true (by kernel_rfl)) k1 bel lt1) trodAll_mk0)), rfl, bel.frame _, fun h => by cases h⟩

theorem over : Rows.fnExactDevNewRow.holds Try.pinned (OpenSpec.ofChange Rows.fnExactDevNewSpec) :=
  OpenClaim.holds_of_wide 3 Try.f3 rfl rfl rfl rfl rfl rfl rfl ⟨rfl, rfl, rfl, rfl, rfl⟩ rfl rfl rfl rfl rfl (by kernel_rfl) Try.func3 (by kernel_rfl)
    (of_decide_eq_true (by kernel_rfl)) (by unfold Func.isWrapper; first | (rw [if_pos (by decide +kernel)]; kernel_rfl) | (rw [if_neg (by decide +kernel)]; exact ⟨rfl, rfl⟩))
    (fun os started H enc _ => lifted os started H enc)

/-- ████ THE STATEMENT ████ -/
theorem proved : Rows.FnExactDevNewSaid := over
#print axioms proved
end Go.Proofs.Ytmjifealomgcfaa.fnExactDevNew
