/-
  FnExactGetInode: at every list of bytes the law of GetInode answers true and leaves its argument as it was; no condition.
  The frame (all but the walk) is the text that the guide's own program writes for this row.
-/
import Derived.Test.YtnllhpeddoaehaaRows
import Derived.Test.YtnllhpeddoaehaaGetG
import Derived.WalkKit
import Derived.ProofKit
import Derived.OpenShut
import Derived.ShutString
import Derived.ChangeOld
import Derived.Below
namespace Go.Proofs.Ytnllhpeddoaehaa.fnExactGetInode
open Go.ChangeShapes Go.WideShapes Go.ChangeAt Go.RowKit
open Go.ChangeMaps (open_string shut_string)
set_option linter.unusedVariables false

theorem own : ownKnob Try.prog.godebug = none := by kernel_rfl
theorem laidOut : laidOutB Try.prog = true := by kernel_rfl

/-- WHAT THE WALK IS TOLD OF A SLICE OF INTEGERS THAT CAME IN: it is nil; or it leads to a row of 'cap' cells, the numbers 'zs' (the first 'len' are its elements, the rest its spare room), each fitting its kind. -/
def IsRow (k : IntKind) (w : World) (a : Option Addr) (len cap : Nat) (zs : List Int) : Prop :=
  (a = none ∧ len = 0 ∧ cap = 0 ∧ zs = []) ∨
  ∃ x, a = some x ∧ len ≤ cap ∧ cap ≤ maxLen ∧ zs.length = cap ∧ (∀ i, i < zs.length → w.cell? (x.add i) = some (.int k (zs.getD i 0))) ∧ ∀ n ∈ zs, (Lit.int k n).wf = true

/-! ### STEP 1: THE WALK: the Go text returns true, AND WRITES NOTHING THAT WAS THERE: 'Below w.heap.size w w'' (Derived/Below.lean: '.refl', '.alloc', '.drew', '.setCell' at a new block, '.trans'). Open each 'IsRow' by 'rcases' AHEAD of 'go_enter'; part every test ahead of the walk. -/
set_option maxRecDepth 100000 in
set_option maxHeartbeats 8000000 in
theorem walk (a0 : Option Addr) (len0 cap0 : Nat) (z0 : List Int) (w : World) (w0 : IsRow .u8 w a0 len0 cap0 z0) :
    Calls Try.prog 6 #[.slice a0 len0 cap0] w fun e w' => e = .returned (.bool true) ∧ Below w.heap.size w w' := by
  obtain ⟨zs, hn, hr, hb⟩ := rd_of_row w0
  clear w0
  have hn' : Hid (zs.length = len0) := hn
  by_cases hbig : 1048576 < len0
  · have : (1048576 : Int) < (len0 : Int) := by omega
    go_enter Try.func6, Try.ntmps6
    go_wp2
    go_ret
    exact ⟨rfl, Below.refl _ _⟩
  have hsm : len0 ≤ 1048576 := by omega
  have hnb : ¬ (1048576 : Int) < (len0 : Int) := by omega
  have cT : ∀ W : World, Below w.heap.size w W → Calls Try.prog 32 #[.slice a0 len0 cap0] W fun e w' => e = .returned (.slice (some ⟨W.heap.size, 0, none⟩) len0 len0) ∧ Own w' W.heap.size len0 len0 zs ∧ Below W.heap.size W w' := fun W hW => toByteS_any a0 len0 cap0 zs W hn hsm (hr.keep hW)
  have cS := fun (W : World) (g : Nat) (h : Own W g len0 len0 zs) => getSO (some ⟨g, 0, none⟩) len0 len0 zs W hn hsm (Nat.le_refl _) h.rd hb
  have cI := fun (W : World) (g : Nat) (h : Own W g len0 len0 zs) => getIO (some ⟨g, 0, none⟩) len0 len0 zs W hn hsm (Nat.le_refl _) h.rd hb
  have hDs := gR_small zs (by omega)
  have hDf := gR_few zs (by omega)
  unfold GetOut at cS cI
  generalize gR zs = D at cS cI hDs hDf
  generalize gOk zs = ok at cS cI
  have cE : ∀ (W : World) (B T B' T' : Nat) (a1 a2 a3 b1 b2 b3 : Option Addr) (c1 c2 c3 d1 d2 d3 : Nat), InoG W B T D (.slice a1 D.data.length c1) (.slice a2 D.ents.length c2) (.slice a3 D.attrs.length c3) → InoG W B' T' D (.slice b1 D.data.length d1) (.slice b2 D.ents.length d2) (.slice b3 D.attrs.length d3) → Calls Try.prog 33 #[.agg #[.int .i64 D.ino, .int .i64 D.kind, .int .i64 D.links, .slice a1 D.data.length c1, .slice a2 D.ents.length c2, .slice a3 D.attrs.length c3], .agg #[.int .i64 D.ino, .int .i64 D.kind, .int .i64 D.links, .slice b1 D.data.length d1, .slice b2 D.ents.length d2, .slice b3 D.attrs.length d3]] W fun e w' => e = .returned (.bool true) ∧ Below W.heap.size W w' := fun W B T B' T' a1 a2 a3 b1 b2 b3 c1 c2 c3 d1 d2 d3 h h' => eqInoG hDs h h'
  obtain ⟨n1, h1⟩ : ∃ n, D.data.length = n := ⟨_, rfl⟩
  obtain ⟨n2, h2⟩ : ∃ n, D.ents.length = n := ⟨_, rfl⟩
  obtain ⟨n3, h3⟩ : ∃ n, D.attrs.length = n := ⟨_, rfl⟩
  have cM := fun (W : World) (B T : Nat) (v1 v2 v3 : Value) (hT : T ≤ W.heap.size) (h : InoG W B T D v1 v2 v3) => markInoG D.ino D.kind D.links B T 1 D v1 v2 v3 W n1 n2 n3 h1 h2 h3 (Nat.le_refl _) (by omega) hT h
  have cH := fun (W : World) (B T : Nat) (v1 v2 v3 : Value) (hT : T ≤ W.heap.size) (h : InoGM W B T 1 n1 n2 n3 v1 v2 v3) => heldInoG D.ino D.kind D.links B T 1 v1 v2 v3 W n1 n2 n3 (Nat.le_refl _) (by omega) hT h
  rw [h1, h2, h3] at cS cI cE hDf
  generalize D.ino = i1 at cS cI cE cM cH
  generalize D.kind = i2 at cS cI cE cM cH
  generalize D.links = i3 at cS cI cE cM cH
  have CT : Hid _ := cT
  have CS : Hid _ := cS
  have CI : Hid _ := cI
  have CE : Hid _ := cE
  have CM : Hid _ := cM
  have CH : Hid _ := cH
  have HR : Hid _ := hr
  clear cT cS cI cE cM cH hr hb hn hDs h1 h2 h3
  go_enter Try.func6, Try.ntmps6
  go_wp2_with fail
  refine (CT.out w (Below.refl _ _)).mono ?_
  rintro e w1 ⟨rfl, o1, b1⟩
  go_wp2_with fail
  refine (CS.out w1 w.heap.size o1).mono ?_
  rintro e w2 ⟨⟨a1, c1, a2, c2, a3, c3, rfl, gS⟩, b2⟩
  have B2 := b1.trans (b2.mono b1.size)
  have b2' : Below w2.heap.size w2 (w2.alloc (.cells #[.int .i64 i1, .int .i64 i2, .int .i64 i3, .slice a1 n1 c1, .slice a2 n2 c2, .slice a3 n3 c3] 27)) := (Below.refl _ w2).alloc (Nat.le_refl _) _
  have zS := Blk.new w2 27 #[.int .i64 i1, .int .i64 i2, .int .i64 i3, .slice a1 n1 c1, .slice a2 n2 c2, .slice a3 n3 c3]
  have hs1 := b1.size
  have hs2 := b2.size
  have hl1 := o1.lt
  clear o1 b1 b2
  go_wp2_with fail
  obtain ⟨W2, hW2⟩ : ∃ W, w2.alloc (.cells #[.int .i64 i1, .int .i64 i2, .int .i64 i3, .slice a1 n1 c1, .slice a2 n2 c2, .slice a3 n3 c3] 27) = W := ⟨_, rfl⟩
  rw [hW2] at b2' zS ⊢
  clear hW2
  have gS2 := gS.keep (Nat.le_refl _) b2'
  have B2' := B2.trans (b2'.mono B2.size)
  have hsW2 := b2'.size
  have hzS := zS.lt
  obtain ⟨TS, hTS⟩ : ∃ T, w2.heap.size = T := ⟨_, rfl⟩
  obtain ⟨BS, hBS⟩ : ∃ T, w1.heap.size = T := ⟨_, rfl⟩
  rw [hTS] at gS2 zS hsW2 hzS ⊢
  rw [hBS] at gS2
  clear gS B2 b2'
  refine (CT.out W2 B2').mono ?_
  rintro e w3 ⟨rfl, o3, b3⟩
  have B3 := B2'.trans (b3.mono B2'.size)
  have gS3 := gS2.keep hsW2 b3
  have zS3 := zS.keep b3
  have hs3 := b3.size
  have hl3 := o3.lt
  obtain ⟨gx, hgx⟩ : ∃ T, W2.heap.size = T := ⟨_, rfl⟩
  rw [hgx] at o3 hsW2 hzS hl3 ⊢
  clear gS2 zS b3
  go_wp2_with fail
  refine (CI.out w3 gx o3).mono ?_
  rintro e w4 ⟨⟨d1, e1, d2, e2, d3, e3, rfl, gI⟩, b4⟩
  have B4 := B3.trans (b4.mono B3.size)
  have gS4 := gS3.keep (by omega) b4
  have zS4 := zS3.keep b4
  have o4 := o3.keep b4 o3.lt
  have hs4 := b4.size
  have b4' : Below w4.heap.size w4 (w4.alloc (.cells #[.int .i64 i1, .int .i64 i2, .int .i64 i3, .slice d1 n1 e1, .slice d2 n2 e2, .slice d3 n3 e3] 27)) := (Below.refl _ w4).alloc (Nat.le_refl _) _
  have zI := Blk.new w4 27 #[.int .i64 i1, .int .i64 i2, .int .i64 i3, .slice d1 n1 e1, .slice d2 n2 e2, .slice d3 n3 e3]
  have zS5 := zS4.keep b4'
  obtain ⟨x0, x1, x2, x3, x4, x5⟩ := zS5.six
  clear gS3 zS3 b4 o3
  go_wp2_with fail
  obtain ⟨W4, hW4⟩ : ∃ W, w4.alloc (.cells #[.int .i64 i1, .int .i64 i2, .int .i64 i3, .slice d1 n1 e1, .slice d2 n2 e2, .slice d3 n3 e3] 27) = W := ⟨_, rfl⟩
  rw [hW4] at b4' zI zS5 ⊢
  clear hW4 x0 x1 x2 x3 x4 x5
  have gI5 := gI.keep (Nat.le_refl _) b4'
  have gS5 := gS4.keep (by omega) b4'
  have o5 := o4.keep b4' o4.lt
  have B5 := B4.trans (b4'.mono B4.size)
  have hsW4 := b4'.size
  have hzI := zI.lt
  obtain ⟨TI, hTI⟩ : ∃ T, w4.heap.size = T := ⟨_, rfl⟩
  obtain ⟨BI, hBI⟩ : ∃ T, w3.heap.size = T := ⟨_, rfl⟩
  rw [hTI] at gI5 zI hsW4 hzI hs4 ⊢
  rw [hBI] at gI5 hl3 hs4
  clear gI gS4 zS4 o4 B4 b4'
  refine (CE.out W4 BI TI BS TS _ _ _ _ _ _ _ _ _ _ _ _ gI5 gS5).mono ?_
  rintro e w5 ⟨rfl, b5⟩
  have B6 := B5.trans (b5.mono B5.size)
  have gI6 := gI5.keep hsW4 b5
  have gS6 := gS5.keep (by omega) b5
  have o6 := o5.keep b5 o5.lt
  have zI6 := zI.keep b5
  have zS6 := zS5.keep b5
  have hs5 := b5.size
  have hoo : (ok != ok) = false := by simp
  clear gI5 gS5 o5 zI zS5 b5
  go_wp2_with fail
  refine (CT.out w5 B6).mono ?_
  rintro e w6 ⟨rfl, o7, b6⟩
  have B7 := B6.trans (b6.mono B6.size)
  have gI7 := gI6.keep (by omega) b6
  have gS7 := gS6.keep (by omega) b6
  have o7' := o6.keep b6 o6.lt
  have zI7 := zI6.keep b6
  have zS7 := zS6.keep b6
  have hs6 := b6.size
  clear gI6 gS6 o6 zI6 zS6 b6
  go_wp2_with fail
  refine (eqByteS_true _ _ len0 len0 len0 zs w6 hn'.out (by omega) o7'.rd o7.rd).mono ?_
  rintro e w7 ⟨rfl, b7⟩
  have B8 := B7.trans (b7.mono B7.size)
  have gI8 := gI7.keep (by omega) b7
  have gS8 := gS7.keep (by omega) b7
  have o8 := o7'.keep b7 o7'.lt
  have zI8 := zI7.keep b7
  have zS8 := zS7.keep b7
  have hs7 := b7.size
  clear gI7 gS7 o7 o7' zI7 zS7 b7
  go_wp2_with fail
  refine (mark_any gx len0 len0 zs w7 (by omega) o8).mono ?_
  rintro e w8 ⟨rfl, m8, g8⟩
  have hout8 : Out gx (gx + 1) w7 w8 := Out.gr g8 (fun g hg => by simp at hg; omega)
  have B9 : Below w.heap.size w w8 := Below.outs B8 hout8 (by omega) (Nat.le_refl _)
  have gI9 := gI8.outs (by omega) hout8 (by omega)
  have gS9 := gS8.outs (by omega) hout8 (by omega)
  have zI9 := zI8.outs hout8 (by omega)
  have zS9 := zS8.outs hout8 (by omega)
  have hs8 := hout8.size
  have hk0 : ¬ (len0 : Int) + 1 < 0 := by omega
  obtain ⟨x0, x1, x2, x3, x4, x5⟩ := zS9.six
  obtain ⟨y0, y1, y2, y3, y4, y5⟩ := zI9.six
  clear gI8 gS8 o8 zI8 zS8 m8 g8 hout8
  go_wp2_with fail
  refine (CE.out w8 BI TI BS TS _ _ _ _ _ _ _ _ _ _ _ _ gI9 gS9).mono ?_
  rintro e w9 ⟨rfl, b9⟩
  have B10 := B9.trans (b9.mono B9.size)
  have gI10 := gI9.keep (by omega) b9
  have gS10 := gS9.keep (by omega) b9
  have zI10 := zI9.keep b9
  have zS10 := zS9.keep b9
  have hs9 := b9.size
  clear gI9 gS9 zI9 zS9 b9 x0 x1 x2 x3 x4 x5 y0 y1 y2 y3 y4 y5
  obtain ⟨y0, y1, y2, y3, y4, y5⟩ := zI10.six
  go_wp2_with fail
  refine (CM.out w9 BI TI _ _ _ (by omega) gI10).mono ?_
  rintro e w10 ⟨rfl, mG, hout⟩
  have B11 : Below w.heap.size w w10 := Below.outs B10 hout (by omega) (Nat.le_refl _)
  have gS11 := gS10.outs (by omega) hout (by omega)
  have zI11 := zI10.outs hout (by omega)
  have zS11 := zS10.outs hout (by omega)
  have hs10 := hout.size
  clear gI10 gS10 zI10 zS10 hout y0 y1 y2 y3 y4 y5
  obtain ⟨mm, hmm⟩ : ∃ m, 1 + n1 + 2 * n2 + 2 * n3 = m := ⟨_, rfl⟩
  rw [hmm] at CH ⊢
  obtain ⟨y0, y1, y2, y3, y4, y5⟩ := zI11.six
  go_wp2_with fail
  refine (CH.out w10 BI TI _ _ _ (by omega) mG).mono ?_
  rintro e w11 ⟨rfl, b11⟩
  have B12 := B11.trans (b11.mono B11.size)
  have mG12 := mG.keep (by omega) b11
  have gS12 := gS11.keep (by omega) b11
  have zI12 := zI11.keep b11
  have zS12 := zS11.keep b11
  have hs11 := b11.size
  have hmm0 : ¬ (mm : Int) < 0 := by omega
  have hmme : ((mm : Int) != (mm : Int)) = false := by simp
  clear mG gS11 zI11 zS11 b11 y0 y1 y2 y3 y4 y5
  go_wp2_with fail
  refine (CT.out w11 B12).mono ?_
  rintro e w12 ⟨rfl, o13, b12⟩
  have B13 := B12.trans (b12.mono B12.size)
  have mG13 := mG12.keep (by omega) b12
  have gS13 := gS12.keep (by omega) b12
  have zI13 := zI12.keep b12
  have zS13 := zS12.keep b12
  have hs12 := b12.size
  clear mG12 gS12 zI12 zS12 b12
  go_wp2_with fail
  refine (CI.out w12 _ o13).mono ?_
  rintro e w13 ⟨⟨p1, q1, p2, q2, p3, q3, rfl, gJ⟩, b13⟩
  have B14 := B13.trans (b13.mono B13.size)
  have mG14 := mG13.keep (by omega) b13
  have gS14 := gS13.keep (by omega) b13
  have zI14 := zI13.keep b13
  have zS14 := zS13.keep b13
  have hs13 := b13.size
  have b14' : Below w13.heap.size w13 (w13.alloc (.cells #[.int .i64 i1, .int .i64 i2, .int .i64 i3, .slice p1 n1 q1, .slice p2 n2 q2, .slice p3 n3 q3] 27)) := (Below.refl _ w13).alloc (Nat.le_refl _) _
  have zS15 := zS14.keep b14'
  obtain ⟨x0, x1, x2, x3, x4, x5⟩ := zS15.six
  clear mG13 gS13 zI13 zS13 b13 o13
  go_wp2_with fail
  obtain ⟨W13, hW13⟩ : ∃ W, w13.alloc (.cells #[.int .i64 i1, .int .i64 i2, .int .i64 i3, .slice p1 n1 q1, .slice p2 n2 q2, .slice p3 n3 q3] 27) = W := ⟨_, rfl⟩
  rw [hW13] at b14' ⊢
  clear hW13 x0 x1 x2 x3 x4 x5 zS15
  have gJ15 := gJ.keep (Nat.le_refl _) b14'
  have mG15 := mG14.keep (by omega) b14'
  have gS15 := gS14.keep (by omega) b14'
  have zI15 := zI14.keep b14'
  have B15 := B14.trans (b14'.mono B14.size)
  have hs14 := b14'.size
  clear gJ mG14 gS14 zI14 zS14 B14 b14'
  refine (CE.out W13 _ _ BS TS _ _ _ _ _ _ _ _ _ _ _ _ gJ15 gS15).mono ?_
  rintro e w16 ⟨rfl, b16⟩
  have B16 := B15.trans (b16.mono B15.size)
  have mG16 := mG15.keep (by omega) b16
  have zI16 := zI15.keep b16
  have hs16 := b16.size
  clear gJ15 gS15 mG15 zI15 b16
  obtain ⟨y0, y1, y2, y3, y4, y5⟩ := zI16.six
  go_wp2_with fail
  refine (CH.out w16 BI TI _ _ _ (by omega) mG16).mono ?_
  rintro e w17 ⟨rfl, b17⟩
  have B17 := B16.trans (b17.mono B16.size)
  clear mG16 zI16 b17 y0 y1 y2 y3 y4 y5
  go_wp2
  go_ret
  exact ⟨rfl, B17⟩

/-! ### THE ROW's STEP: WRITTEN OUT: LEAVE IT -/
set_option maxRecDepth 100000 in
theorem lifted (os : Os) (started : os.Started) (H : Type) (enc : TypeId × Value → H) :
    ReturnsInHanded {} Try.checked os 6 .any (Rows.fnExactGetInodeSpec.pre6 enc Try.prog Try.f6 Rows.fnExactGetInodeRow.domain false) (Rows.fnExactGetInodeSpec.post enc Try.prog Try.f6 false true false false) := by
  refine returnsInHanded_of_change (C := Try.checked) own started (by kernel_rfl) Try.func6
    (ChangeSpec.witness6 (enc := enc) (C := Try.checked) false ⟨#[], #[.slice none 0 0], []⟩ 8 (by kernel_rfl) (by kernel_rfl) (by kernel_rfl) (by kernel_rfl)) ?_
  intro W base args ds gs before hval0 hW hcnd _
  have hval : ∀ (j : Nat) t v, Try.f6.params[j]? = some t → args[j]? = some v → Value.okWide Try.prog W .any base t v := hval0
  have hW' := hW
  obtain ⟨p, q, hA0, hV, rfl, hfz, hnd⟩ := hW
  have hA : DataW.TrodAll enc Try.prog W 0 (fun _ => true) true Try.f6.params.toList args.toList ds p := hA0
  rw [Try.params6] at hA hval
  obtain ⟨v0, vs0, d0, ds0, p0, q0, hargs, rfl, rfl, h0, r0⟩ := trodAll_cons hA
  obtain ⟨rfl, rfl, rfl⟩ := trodAll_nil r0
  obtain rfl : args = #[v0] := by cases args; simp_all
  obtain ⟨rfl, rfl⟩ := trodVars_none hV
  obtain ⟨a0, len0, cap0, rfl⟩ := okWide_slice Try.underlying22 (hval 0 22 v0 rfl rfl)
  have k0 := h0
  have lt0 : ∀ x ∈ p0, x.block < W.heap.size := by obtain ⟨m, hm⟩ := k0; exact DataW.trod_lt m _ _ _ hm
  obtain ⟨z0, w0⟩ : ∃ zs, IsRow .u8 W a0 len0 cap0 zs := by
    obtain ⟨fuel, hf⟩ := h0
    rcases open_ints Try.underlying22 Try.underlying5 (by kernel_rfl) hf with ⟨hcs, _⟩ | ⟨x, l, c, zs, hcs, _, hl, hm, hz, _, hcell, hwz⟩
    · simp [Value.cells] at hcs
      obtain ⟨rfl, rfl, rfl⟩ := hcs
      exact ⟨[], .inl ⟨rfl, rfl, rfl, rfl⟩⟩
    · simp [Value.cells] at hcs
      obtain ⟨rfl, rfl, rfl⟩ := hcs
      exact ⟨zs, .inr ⟨_, rfl, hl, hm, by simpa using hz, hcell, hwz⟩⟩
  clear hA0 hval0
  refine (walk a0 len0 cap0 z0 W w0).mono fun e W' ⟨he, bel⟩ => ?_
  subst he
  exact ⟨_, rfl, _, _, _, [], _, [], hW', trodAll_mk1 (shut_bool Try.underlying4 _), (trodAll_cons_mk (Below.trod laidOut (by kernel_rfl) (of_decide_eq_true (by kernel_rfl)) k0 bel lt0) trodAll_mk0), rfl, bel.frame _, fun h => by cases h⟩

theorem over : Rows.fnExactGetInodeRow.holds Try.pinned (OpenSpec.ofChange Rows.fnExactGetInodeSpec) :=
  OpenClaim.holds_of_wide 6 Try.f6 rfl rfl rfl rfl rfl rfl rfl ⟨rfl, rfl, rfl, rfl, rfl⟩ rfl rfl rfl rfl rfl (by kernel_rfl) Try.func6 (by kernel_rfl)
    (of_decide_eq_true (by kernel_rfl)) (by unfold Func.isWrapper; first | (rw [if_pos (by decide +kernel)]; kernel_rfl) | (rw [if_neg (by decide +kernel)]; exact ⟨rfl, rfl⟩))
    (fun os started H enc _ => lifted os started H enc)

/-- ████ THE STATEMENT ████ -/
theorem proved : Rows.FnExactGetInodeSaid := over
#print axioms proved
end Go.Proofs.Ytnllhpeddoaehaa.fnExactGetInode
