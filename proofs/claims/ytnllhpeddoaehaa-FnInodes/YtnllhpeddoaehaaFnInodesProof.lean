/-
  A drawn inode that is right comes back of its bytes; no conditions.
  The frame (all but the walk) is the text that the guide's own program writes for this row.
-/
import Derived.Test.YtnllhpeddoaehaaRows
import Derived.Test.YtnllhpeddoaehaaFnI
import Derived.WalkKit
import Derived.ProofKit
import Derived.OpenShut
import Derived.ShutString
import Derived.ChangeOld
import Derived.Below
namespace Go.Proofs.Ytnllhpeddoaehaa.fnInodes
open Go.ChangeShapes Go.WideShapes Go.ChangeAt Go.RowKit
open Go.ChangeMaps (open_string shut_string)
set_option linter.unusedVariables false

theorem own : ownKnob Try.prog.godebug = none := by kernel_rfl
theorem laidOut : laidOutB Try.prog = true := by kernel_rfl

/-- WHAT THE WALK IS TOLD OF A SLICE OF INTEGERS THAT CAME IN: it is nil; or it leads to a row of 'cap' cells, the numbers 'zs' (the first 'len' are its elements, the rest its spare room), each fitting its kind. -/
def IsRow (k : IntKind) (w : World) (a : Option Addr) (len cap : Nat) (zs : List Int) : Prop :=
  (a = none ∧ len = 0 ∧ cap = 0 ∧ zs = []) ∨
  ∃ x, a = some x ∧ len ≤ cap ∧ cap ≤ maxLen ∧ zs.length = cap ∧ (∀ i, i < zs.length → w.cell? (x.add i) = some (.int k (zs.getD i 0))) ∧ ∀ n ∈ zs, (Lit.int k n).wf = true

/-! ### STEP 1: THE WALK: the Go text returns true, AND WRITES NOTHING THAT WAS THERE: 'Below w.heap.size w w'' (Derived/Below.lean: '.refl', '.alloc', '.drew', '.setCell' at a new block, '.trans'). Open each 'IsRow' by 'rcases' AHEAD of 'go_enter'; part every test ahead of the walk. -/
set_option maxRecDepth 100000 in
set_option maxHeartbeats 8000000 in
theorem walk (a0 : Option Addr) (len0 cap0 : Nat) (z0 : List Int) (w : World) (w0 : IsRow .u8 w a0 len0 cap0 z0) :
    Calls Try.prog 3 #[.slice a0 len0 cap0] w fun e w' => e = .returned (.bool true) ∧ Below w.heap.size w w' := by
  obtain ⟨zs, hn, hr, hb⟩ := rd_of_row w0
  clear w0
  by_cases hbig : 1048576 < len0
  · have hd : decide ((1048576 : Int) < (len0 : Int)) = true := by simp; omega
    go_enter Try.func3, Try.ntmps3
    go_wp2_with fail
    refine (big_any a0 len0 cap0 w).mono ?_
    rintro e w1 ⟨rfl, hw⟩
    obtain rfl := hw.symm
    rw [hd]
    go_wp2
    go_ret
    exact ⟨rfl, Below.refl _ _⟩
  have hd : decide ((1048576 : Int) < (len0 : Int)) = false := by simp; omega
  have hcD := drawPutInode_any a0 len0 cap0 zs w hn (by omega) hr hb
  clear hn hr hb
  go_enter Try.func3, Try.ntmps3
  go_wp2_with fail
  refine (big_any a0 len0 cap0 w).mono ?_
  rintro e w1 ⟨rfl, hw⟩
  obtain rfl := hw.symm
  rw [hd]
  clear hd hbig
  go_wp2_with fail
  (with_reducible refine hcD.mono ?_)
  rintro e w1 ⟨D, a1, c1, a2, c2, a3, c3, rfl, hrd, hA, b1⟩
  clear hcD
  have hsm := hA.small
  have b1' : Below w1.heap.size w1 (w1.alloc (.cells #[.int .i64 D.ino, .int .i64 D.kind, .int .i64 D.links, .slice a1 D.data.length c1, .slice a2 D.ents.length c2, .slice a3 D.attrs.length c3] 27)) := (Below.refl _ w1).alloc (Nat.le_refl _) _
  have zx := Blk.new w1 27 #[.int .i64 D.ino, .int .i64 D.kind, .int .i64 D.links, .slice a1 D.data.length c1, .slice a2 D.ents.length c2, .slice a3 D.attrs.length c3]
  have hrd1 := InoRd.keep hrd b1'
  have B1 := b1.trans (b1'.mono b1.size)
  clear hrd b1
  go_upto_region 4 with fail
  obtain ⟨W1, hW1⟩ : ∃ W, w1.alloc (.cells #[.int .i64 D.ino, .int .i64 D.kind, .int .i64 D.links, .slice a1 D.data.length c1, .slice a2 D.ents.length c2, .slice a3 D.attrs.length c3] 27) = W := ⟨_, rfl⟩
  obtain ⟨X, hX⟩ : ∃ X, w1.heap.size = X := ⟨_, rfl⟩
  rw [hW1] at b1' zx hrd1 B1 ⊢
  rw [hX] at zx ⊢
  clear hW1 hX b1'
  have HR : Hid (∀ W : World, Below W1.heap.size W1 W → InoRd W D a1 a2 a3) := fun W hW => InoRd.keep hrd1 hW
  have CO : Hid (∀ W : World, Below W1.heap.size W1 W → Calls Try.prog 17 #[inoV D a1 c1 a2 c2 a3 c3] W fun e w' => e = .returned (.bool (inoOk D)) ∧ Below W.heap.size W w') := fun W hW => inoOkI D a1 a2 a3 c1 c2 c3 W hsm (HR.out W hW)
  have CS : Hid (∀ W : World, Below W1.heap.size W1 W → Calls Try.prog 16 #[inoV D a1 c1 a2 c2 a3 c3] W fun e w' => e = .returned (.bool (inoOk D)) ∧ Below W.heap.size W w') := fun W hW => inoOkS D a1 a2 a3 c1 c2 c3 W hsm (HR.out W hW)
  unfold inoV at CO CS
  obtain ⟨q0, q1, q2, q3, q4, q5⟩ := zx.six
  cases hok : inoOk D with
  | false =>
    rw [hok] at CO CS
    have hcP := putI_no D a1 a2 a3 c1 c2 c3 W1 hsm hrd1 hok
    unfold inoV at hcP
    go_wp2_with fail
    (with_reducible refine hcP.mono ?_)
    rintro e w2 ⟨rfl, b2⟩
    have z2 := zx.keep b2
    have B2 := below_t B1 b2
    clear q0 q1 q2 q3 q4 q5 hcP
    obtain ⟨q0, q1, q2, q3, q4, q5⟩ := z2.six
    go_wp2_with fail
    (with_reducible refine (CS.out w2 b2).mono ?_)
    rintro e w3 ⟨rfl, b3⟩
    have z3 := z2.keep b3
    have b23 := below_t b2 b3
    have B3 := below_t B1 b23
    clear q0 q1 q2 q3 q4 q5
    obtain ⟨q0, q1, q2, q3, q4, q5⟩ := z3.six
    go_wp2_with (first | (go_at_call 17; (with_reducible refine (CO.out w3 b23).mono ?_); rintro e w4 ⟨rfl, b4⟩) | fail)
    go_ret
    exact ⟨rfl, below_t B3 b4⟩
  | true =>
    rw [hok] at CO CS
    have hcP := putI_yes D a1 a2 a3 c1 c2 c3 W1 hsm hrd1 hok
    unfold inoV at hcP
    have hby : Byt D.data := by obtain ⟨_, h, _, _⟩ := hrd1; exact h
    obtain ⟨hgk, hgD⟩ := gOk_enc hok hby
    have hfit := inoOk_fit hok
    have hlen := inoEnc_len hfit
    have hbe : Byt (inoEnc D) := inoEnc_byt D
    have hgR : gR (inoEnc D) = D := by unfold gR; rw [if_pos hgk, hgD]
    obtain ⟨es, hes⟩ : ∃ es, inoEnc D = es := ⟨_, rfl⟩
    rw [hes] at hcP hgk hgD hlen hbe hgR
    clear hes hgD
    obtain ⟨m, hm⟩ : ∃ m, es.length = m := ⟨_, rfl⟩
    rw [hm] at hcP hlen
    have hm' : Hid _ := hm
    have hmI : (m : Int) ≤ 380 := by omega
    have HE : Hid (entsOk D.ents = true) := by
      unfold inoOk at hok
      simp only [Bool.and_eq_true] at hok
      exact hok.1.1.2
    have HZ : Hid _ := hA.ents
    clear hm hok hby
    go_wp2_with fail
    (with_reducible refine hcP.mono ?_)
    rintro e w2 ⟨gb, cb, rfl, hgb, ob, b2⟩
    have z2 := zx.keep b2
    clear q0 q1 q2 q3 q4 q5 hcP
    obtain ⟨q0, q1, q2, q3, q4, q5⟩ := z2.six
    go_wp2_with fail
    (with_reducible refine (CS.out w2 b2).mono ?_)
    rintro e w3 ⟨rfl, b3⟩
    have z3 := z2.keep b3
    have b23 := below_t b2 b3
    have ob3 : Own w3 gb m cb es := ob.keep b3 (World.ownsRow.lt ob gb rfl).2
    have hcG := getI (some ⟨gb, 0, none⟩) m cb es w3 hm'.out (by omega) ob3.cap' ob3.rd' hbe
    clear q0 q1 q2 q3 q4 q5 z2 ob
    go_wp2_with fail
    (with_reducible refine hcG.mono ?_)
    rintro e w4 ⟨hP, b4⟩
    obtain ⟨e1, f1, e2, f2, e3, f3, rfl, hG⟩ := hP.out
    rw [hgR] at hG ⊢
    rw [hgk]
    have z4 := z3.keep b4
    have b24 := below_t b23 b4
    have b4' : Below w4.heap.size w4 (w4.alloc (.cells #[.int .i64 D.ino, .int .i64 D.kind, .int .i64 D.links, .slice e1 D.data.length f1, .slice e2 D.ents.length f2, .slice e3 D.attrs.length f3] 27)) := (Below.refl _ w4).alloc (Nat.le_refl _) _
    have zy := Blk.new w4 27 #[.int .i64 D.ino, .int .i64 D.kind, .int .i64 D.links, .slice e1 D.data.length f1, .slice e2 D.ents.length f2, .slice e3 D.attrs.length f3]
    have z5 := z4.keep b4'
    have b25 := below_t b24 b4'
    have hry := InoRd.keep (inoG_read hG) b4'
    clear z3 z4 b4 b3 b2 b4' hG hcG b23
    go_upto_region 8 with fail
    obtain ⟨W5, hW5⟩ : ∃ W, w4.alloc (.cells #[.int .i64 D.ino, .int .i64 D.kind, .int .i64 D.links, .slice e1 D.data.length f1, .slice e2 D.ents.length f2, .slice e3 D.attrs.length f3] 27) = W := ⟨_, rfl⟩
    obtain ⟨Y, hY⟩ : ∃ X, w4.heap.size = X := ⟨_, rfl⟩
    rw [hW5] at zy z5 b25 hry ⊢
    rw [hY] at zy ⊢
    clear hW5 hY b24
    have HB : Hid _ := b25
    obtain ⟨ne, hne⟩ : ∃ k, D.ents.length = k := ⟨_, rfl⟩
    have HNE : Hid _ := hne
    have hnb := hfit.nEnts
    rw [hne] at hnb
    have CE : Hid (∀ (nm : ByteArray) (W : World), Below W1.heap.size W1 W → Calls Try.prog 19 #[inoV D a1 c1 a2 c2 a3 c3, .string nm] W fun e w' => e = .returned (.int .i64 (entOf nm D.ents)) ∧ Below W.heap.size W w') := fun nm W hW => entOfI D a1 a2 a3 c1 c2 c3 nm W hsm.ents (HR.out W hW)
    have CM : Hid (∀ (W : World), Below W1.heap.size W1 W → InoRd W D e1 e2 e3 → Calls Try.prog 20 #[inoV D a1 c1 a2 c2 a3 c3, inoV D e1 f1 e2 f2 e3 f3] W fun e w' => e = .returned (.bool (sameOf D D)) ∧ Below W.heap.size W w') := fun W hW h => sameI D D a1 a2 a3 e1 e2 e3 c1 c2 c3 f1 f2 f3 W hsm hsm (HR.out W hW) h
    unfold inoV at CE CM
    rw [hne] at CE CM CO CS z5 zy
    have t4 := z5.cell 4
    simp at t4
    clear hne
    go_wp2
    clear t4
    go_loopw [7] (fun i wr => ∃ k : Nat, k ≤ ne ∧ i = .int .i64 k ∧ Below W5.heap.size W5 wr) (fun i _ => ne - (intOf i).toNat)
    case atStart => exact ⟨0, Nat.zero_le _, rfl, Below.refl _ _⟩
    case round =>
      obtain ⟨k, hk, rfl, bw⟩ := hrel
      have z6 := z5.keep bw
      have y6 := zy.keep bw
      have b26 := below_t HB.out bw
      have hry6 := InoRd.keep hry bw
      clear z5 zy hry
      obtain ⟨q0, q1, q2, q3, q4, q5⟩ := z6.six
      by_cases hkn : k < ne
      · have hki : (k : Int) < (ne : Int) := by omega
        have hk0 : (0 : Int) ≤ (k : Int) := by omega
        have hkl : k < D.ents.length := by rw [HNE.out]; exact hkn
        have hself := entOf_self HE.out k hkl
        obtain ⟨_, _, hrp, _⟩ := HR.out wr b26
        obtain ⟨b, off, rfl, hlt, hcc⟩ := hrp.lt (by intro h; have := congrArg List.length h; rw [eP_length, HNE.out] at this; simp at this; omega)
        have hx := hcc k (by rw [eP_length]; exact hkl)
        rw [eP_at D.ents k hkl] at hx
        obtain ⟨s0, s1⟩ := hx
        obtain ⟨nm, hnm⟩ : ∃ z, D.ents[k].1 = z := ⟨_, rfl⟩
        obtain ⟨vi, hvi⟩ : ∃ z, D.ents[k].2 = z := ⟨_, rfl⟩
        rw [hnm] at s0 hself
        rw [hvi] at s1 hself
        have hcE := CE.out nm wr.drew (below_t b26 (Below.refl _ wr).drew)
        rw [hself] at hcE
        have hvv : (vi != vi) = false := by simp
        have Z6 : Hid _ := And.intro z6 y6
        have RD6 : Hid (∀ W : World, Below wr.heap.size wr W → W.cell? ⟨b, off + k * 2, none⟩ = some (.string nm) ∧ W.cell? ⟨b, off + k * 2 + 1, none⟩ = some (.int .i64 vi)) := fun W hW => ⟨(hW.cell (p := ⟨b, off + k * 2, none⟩) hlt).trans s0, (hW.cell (p := ⟨b, off + k * 2 + 1, none⟩) hlt).trans s1⟩
        clear hcc hrp hnm hvi hself z6 y6 hry6
        go_upto_region 11 with fail
        go_region_held3 (fun W : World => W.cell? ⟨X, 0, none⟩ = some (.int .i64 D.ino) ∧ W.cell? ⟨X, 1, none⟩ = some (.int .i64 D.kind) ∧ W.cell? ⟨X, 2, none⟩ = some (.int .i64 D.links) ∧ W.cell? ⟨X, 3, none⟩ = some (.slice a1 D.data.length c1) ∧ W.cell? ⟨X, 4, none⟩ = some (.slice (some ⟨b, off, none⟩) ne c2) ∧ W.cell? ⟨X, 5, none⟩ = some (.slice a3 D.attrs.length c3) ∧ W.cell? ⟨b, off + k * 2, none⟩ = some (.string nm) ∧ W.cell? ⟨b, off + k * 2 + 1, none⟩ = some (.int .i64 vi)) (go_keep) (first
          | (go_at_call 19; (with_reducible refine hcE.mono ?_); rintro e w7 ⟨rfl, b7⟩; have b67 : Below wr.heap.size wr w7 := below_t (Below.refl _ wr).drew b7; obtain ⟨m0, m1, m2, m3, m4, m5⟩ := (Blk.keep Z6.out.1 b67).six; obtain ⟨m6, m7⟩ := RD6.out w7 b67)
          | fail)
        go_wp2
        go_roundw
        case rel => exact ⟨k + 1, by omega, by go_num, below_t bw b67⟩
        case measure => simp [intOf]; omega
      · have hki : ¬ (k : Int) < (ne : Int) := by omega
        obtain ⟨p0, p1, p2, p3, p4, p5⟩ := y6.six
        have hcM := CM.out wr b26 hry6
        rw [sameOf_self] at hcM
        have hz0 : entOf ⟨#[122, 122]⟩ D.ents = 0 := entOf_none (fun q hq => (HZ.out q hq).2)
        have hcZ := CE.out ⟨#[122, 122]⟩
        rw [hz0] at hcZ
        have HCZ : Hid _ := hcZ
        have Z6 : Hid (Blk wr X 27 #[.int .i64 D.ino, .int .i64 D.kind, .int .i64 D.links, .slice a1 D.data.length c1, .slice a2 ne c2, .slice a3 D.attrs.length c3]) := z6
        clear z6 y6 hry6 hz0 hcZ
        go_wp2_with fail
        (with_reducible refine hcM.mono ?_)
        rintro e w7 ⟨rfl, b7⟩
        have b27 := below_t b26 b7
        have z7 := Blk.keep Z6.out b7
        clear q0 q1 q2 q3 q4 q5 p0 p1 p2 p3 p4 p5
        obtain ⟨q0, q1, q2, q3, q4, q5⟩ := z7.six
        go_wp2_with fail
        (with_reducible refine (CO.out w7 b27).mono ?_)
        rintro e w8 ⟨rfl, b8⟩
        have b28 := below_t b27 b8
        have z8 := z7.keep b8
        clear q0 q1 q2 q3 q4 q5
        obtain ⟨q0, q1, q2, q3, q4, q5⟩ := z8.six
        go_wp2_with fail
        (with_reducible refine (HCZ.out w8 b28).mono ?_)
        rintro e w9 ⟨rfl, b9⟩
        have b29 := below_t b28 b9
        go_wp2
        go_ret
        exact ⟨rfl, below_t B1 b29⟩

/-! ### THE ROW's STEP: WRITTEN OUT: LEAVE IT -/
set_option maxRecDepth 100000 in
theorem lifted (os : Os) (started : os.Started) (H : Type) (enc : TypeId × Value → H) :
    ReturnsInHanded {} Try.checked os 3 .any (Rows.fnInodesSpec.pre6 enc Try.prog Try.f3 Rows.fnInodesRow.domain false) (Rows.fnInodesSpec.post enc Try.prog Try.f3 false true false false) := by
  refine returnsInHanded_of_change (C := Try.checked) own started (by kernel_rfl) Try.func3
    (ChangeSpec.witness6 (enc := enc) (C := Try.checked) false ⟨#[], #[.slice none 0 0], []⟩ 8 (by kernel_rfl) (by kernel_rfl) (by kernel_rfl) (by kernel_rfl)) ?_
  intro W base args ds gs before hval0 hW hcnd _
  have hval : ∀ (j : Nat) t v, Try.f3.params[j]? = some t → args[j]? = some v → Value.okWide Try.prog W .any base t v := hval0
  have hW' := hW
  obtain ⟨p, q, hA0, hV, rfl, hfz, hnd⟩ := hW
  have hA : DataW.TrodAll enc Try.prog W 0 (fun _ => true) true Try.f3.params.toList args.toList ds p := hA0
  rw [Try.params3] at hA hval
  obtain ⟨v0, vs0, d0, ds0, p0, q0, hargs, rfl, rfl, h0, r0⟩ := trodAll_cons hA
  obtain ⟨rfl, rfl, rfl⟩ := trodAll_nil r0
  obtain rfl : args = #[v0] := by cases args; simp_all
  obtain ⟨rfl, rfl⟩ := trodVars_none hV
  obtain ⟨a0, len0, cap0, rfl⟩ := okWide_slice Try.underlying22 (hval 0 22 v0 rfl rfl)
  have k0 := h0
  have lt0 : ∀ x ∈ p0, x.block < W.heap.size := by obtain ⟨m, hm⟩ := k0; exact DataW.trod_lt m _ _ _ hm
  obtain ⟨z0, w0⟩ : ∃ zs, IsRow .u8 W a0 len0 cap0 zs := by
    obtain ⟨fuel, hf⟩ := h0
    rcases open_ints Try.underlying22 Try.underlying5 (by kernel_rfl) hf with ⟨hcs, _⟩ | ⟨x, l, c, zs, hcs, _, hl, hm, hz, _, hcell, hwz⟩
    · simp [Value.cells] at hcs
      obtain ⟨rfl, rfl, rfl⟩ := hcs
      exact ⟨[], .inl ⟨rfl, rfl, rfl, rfl⟩⟩
    · simp [Value.cells] at hcs
      obtain ⟨rfl, rfl, rfl⟩ := hcs
      exact ⟨zs, .inr ⟨_, rfl, hl, hm, by simpa using hz, hcell, hwz⟩⟩
  clear hA0 hval0
  refine (walk a0 len0 cap0 z0 W w0).mono fun e W' ⟨he, bel⟩ => ?_
  subst he
  exact ⟨_, rfl, _, _, _, [], _, [], hW', trodAll_mk1 (shut_bool Try.underlying4 _), (trodAll_cons_mk (Below.trod laidOut (by kernel_rfl) (of_decide_eq_true (by kernel_rfl)) k0 bel lt0) trodAll_mk0), rfl, bel.frame _, fun h => by cases h⟩

theorem over : Rows.fnInodesRow.holds Try.pinned (OpenSpec.ofChange Rows.fnInodesSpec) :=
  OpenClaim.holds_of_wide 3 Try.f3 rfl rfl rfl rfl rfl rfl rfl ⟨rfl, rfl, rfl, rfl, rfl⟩ rfl rfl rfl rfl rfl (by kernel_rfl) Try.func3 (by kernel_rfl)
    (of_decide_eq_true (by kernel_rfl)) (by unfold Func.isWrapper; first | (rw [if_pos (by decide +kernel)]; kernel_rfl) | (rw [if_neg (by decide +kernel)]; exact ⟨rfl, rfl⟩))
    (fun os started H enc _ => lifted os started H enc)

/-- ████ THE STATEMENT ████ -/
theorem proved : Rows.FnInodesSaid := over
#print axioms proved
end Go.Proofs.Ytnllhpeddoaehaa.fnInodes
