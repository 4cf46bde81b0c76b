/-
  The program's PathsOf answers as the specification's at every table, writes into no argument, and its answer owns its memory.
  The frame is the one that the guide's own program writes for a law over one []byte, turned to this law's parameters.
-/
import Derived.Test.YtnadeelnjhollaaGreatRows
import Derived.Test.YtnadeelnjhollaaGreatTabWV
import Derived.Test.YtnadeelnjhollaaGreatTabOpenV
import Derived.Test.YtnadeelnjhollaaGreatSzWV
import Derived.Test.YtnadeelnjhollaaGreatAtWV
import Derived.Test.YtnadeelnjhollaaGreatDropWV
import Derived.Test.YtnadeelnjhollaaGreatToJV
import Derived.Test.YtnadeelnjhollaaGreatTabNewV
import Derived.Test.YtnadeelnjhollaaGreatMarkSVV
import Derived.Test.YtnadeelnjhollaaGreatPathsIV
import Derived.Test.YtnadeelnjhollaaGreatPathsOV
import Derived.WalkKit
import Derived.ProofKit
import Derived.OpenShut
import Derived.ShutString
import Derived.ChangeOld
import Derived.Below
namespace Go.Proofs.YtnadeelnjhollaaGreat.fnExactPathsOf
open Go.ChangeShapes Go.WideShapes Go.ChangeAt Go.RowKit
open Go.ChangeMaps (open_string shut_string)
set_option linter.unusedVariables false

theorem own : ownKnob Tryz.prog.godebug = none := by kernel_rfl
theorem laidOut : laidOutB Tryz.prog = true := by kernel_rfl

/-! ### STEP 1: THE WALK: the Go text returns true, AND WRITES NOTHING THAT WAS THERE: 'Below w.heap.size w w'' (Derived/Below.lean: '.refl', '.alloc', '.drew', '.setCell' at a new block, '.trans'). Open each 'IsRow' by 'rcases' AHEAD of 'go_enter'; part every test ahead of the walk. -/
theorem own_outs {W W' : World} {B lo hi : Nat} {e : TypeId} {sz : Nat} {v : Value} {n : Nat} {xs : List Value} (h : W.ownsRow B e sz v n xs) (k : Out lo hi W W') (hb : hi ≤ B) : W'.ownsRow B e sz v n xs := by
  refine ⟨h.1, ?_⟩
  rcases h.2 with hn | ⟨g, cap, cur, hv, hg, hh, rest⟩
  · exact .inl hn
  · exact .inr ⟨g, cap, cur, hv, hg, (k.block g (Array.getElem?_eq_some_iff.1 hh).1 (.inr (by omega))).trans hh, rest⟩
theorem own_keep {W W' : World} {B : Nat} {e : TypeId} {sz : Nat} {v : Value} {n : Nat} {xs : List Value} (h : W.ownsRow B e sz v n xs) (k : Below W.heap.size W W') : W'.ownsRow B e sz v n xs := by
  refine ⟨h.1, ?_⟩
  rcases h.2 with hn | ⟨g, cap, cur, hv, hg, hh, rest⟩
  · exact .inl hn
  · exact .inr ⟨g, cap, cur, hv, hg, (k.block g (Array.getElem?_eq_some_iff.1 hh).1).trans hh, rest⟩
theorem own_low {W : World} {B : Nat} {e : TypeId} {sz : Nat} {v : Value} {n : Nat} {xs : List Value} (h : W.ownsRow B e sz v n xs) : ∀ m, v.ownBlock = some m → B ≤ m := by
  intro m hm
  rcases h.2 with ⟨rfl, _⟩ | ⟨g, cap, cur, rfl, hg, _⟩
  · cases hm
  · simp [Value.ownBlock] at hm
    omega
set_option maxRecDepth 100000 in
set_option maxHeartbeats 8000000 in
theorem walk (a : Option Addr) (cap : Nat) (nx : Int) (rs : List InoR) (w : World) (hm : rs.length ≤ maxLen) (hi : ∀ r ∈ rs, InoIn r.D) (hr : RdI w a rs) :
    Calls Tryz.prog 3 #[.agg #[.slice a rs.length cap, .int .i64 nx]] w fun e w' => e = .returned (.bool true) ∧ Below w.heap.size w w' := by
  obtain ⟨n, hn⟩ : ∃ n, rs.length = n := ⟨_, rfl⟩
  rw [hn] at hm ⊢
  have B0 : Below w.heap.size w (w.alloc (.cells #[.slice a n cap, .int .i64 nx] 24)) := (Below.refl _ w).alloc (Nat.le_refl _) _
  have z0 := BoxT.new w 24 a n cap nx
  go_enter Tryz.func3, Tryz.ntmps3
  go_wp2_with fail
  obtain ⟨W0, hW0⟩ : ∃ W, w.alloc (.cells #[.slice a n cap, .int .i64 nx] 24) = W := ⟨_, rfl⟩
  rw [hW0] at B0 z0 ⊢
  clear hW0
  refine (szTab_w a n cap 1048576 nx rs W0 hn hm (by omega) hi (hr.keep B0)).mono ?_
  rintro e w1 ⟨hsz, b1⟩
  have B1 := B0.trans (b1.mono B0.size)
  have z1 := z0.keep b1
  rcases hsz with rfl | ⟨v, hv, rfl, hn1, hsm⟩
  · go_wp2
    go_ret
    exact ⟨rfl, B1⟩
  have hx0 : ¬ (v : Int) < 0 := by omega
  have HS : Hid _ := hsm
  have HIN : Hid _ := hi
  have hcn : n + cntI rs ≤ 1048576 := by omega
  have CA : Hid _ := fun (W : World) (h : RdI W a rs) => toTab_j a n cap nx rs W hn hn1 HS.out h
  have hlen := paths_len nx (rs.map InoR.D)
  obtain ⟨L, hL⟩ : ∃ L, pathsD nx (rs.map InoR.D) = L := ⟨_, rfl⟩
  obtain ⟨m, hmL⟩ : ∃ m, L.length = m := ⟨_, rfl⟩
  rw [hL, hmL] at hlen
  have HL : Hid _ := hL
  have HML : Hid _ := hmL
  have cS : ∀ (W : World) (B g : Nat) (ts : List InoR), TabQ W B g n rs ts → Calls Tryz.prog 6 #[.agg #[.slice (some ⟨g, 0, none⟩) n n, .int .i64 nx]] W fun e w' => ∃ a' c', e = .returned (.slice a' m c') ∧ RdS w' a' L ∧ Below W.heap.size W w' := fun W B g ts h => by
    have := pathsS (some ⟨g, 0, none⟩) n n nx ts W ⟨h.tlen, hn1, h.cpd.small HS.out, h.rd⟩
    rw [h.cpd.1, HL.out, HML.out] at this
    exact this.mono fun e w' ⟨g', c', he, ho, hb⟩ => ⟨_, _, he, own_rdS ho, hb⟩
  have cI : ∀ (W : World) (B g : Nat) (ts : List InoR), TabQ W B g n rs ts → Calls Tryz.prog 8 #[.agg #[.slice (some ⟨g, 0, none⟩) n n, .int .i64 nx]] W fun e w' => ∃ a' c', e = .returned (.slice a' m c') ∧ w'.ownsRow W.heap.size 9 1 (.slice a' m c') m (sV L) ∧ Below W.heap.size W w' := fun W B g ts h => by
    have hin : ∀ r ∈ ts, InoIn r.D := fun r hr => by
      have h1 : r.D ∈ ts.map InoR.D := List.mem_map_of_mem hr
      rw [h.cpd.1] at h1
      obtain ⟨q, hq, hqr⟩ := List.mem_map.1 h1
      rw [← hqr]
      exact HIN.out q hq
    refine (pathsI (some ⟨g, 0, none⟩) n n nx ts W ⟨h.tlen, hn1, h.cpd.small HS.out, h.rd⟩ (fun r hr => (hin r hr).ino)).mono fun e w' hp => ?_
    obtain ⟨v, rfl, ho, hb⟩ := hp
    rw [h.cpd.1, HL.out, HML.out] at ho
    obtain ⟨a', c', rfl⟩ := ownShape ho
    exact ⟨a', c', rfl, ho, hb⟩
  have cK := fun (W : World) (g Lo Hi : Nat) (js : List InoJ) (h1 : (js.map InoJ.r).map InoR.D = rs.map InoR.D) (hap : ApJ g Lo Hi js) (hH : Hi ≤ W.heap.size) (hown : OwnI W g n n (js.map InoJ.r)) (hG : ∀ (i : Nat) (j : InoJ), js[i]? = some j → j.G W) => markTab_any nx g n n Lo Hi 1 js W (by have := congrArg List.length h1; simp at this; omega) (Nat.le_refl _) (by omega) (q_bound h1 hn hcn) hap hH hown hG
  have CS : Hid _ := cS
  have CI : Hid _ := cI
  have CK : Hid _ := cK
  have HRA : Hid _ := hr
  clear cS cI cK hr hn hsm hi hm B0 z0 b1 hv hcn hL hmL
  obtain ⟨q0, q1⟩ := z1.two
  obtain ⟨G0, hG0⟩ : ∃ G, w.heap.size = G := ⟨_, rfl⟩
  rw [hG0] at z1 q0 q1 ⊢
  have hz1 := z1.lt
  go_wp2_with fail
  refine (CA.out w1 (RdI.keep HRA.out B1)).mono ?_
  rintro e w2 ⟨gA, jA, rfl, qA, _, b2⟩
  have B2 := B1.trans (b2.mono B1.size)
  have z2 := z1.keep b2
  clear q0 q1 z1 b2
  go_wp2_with fail
  refine (CS.out w2 _ gA _ qA).mono ?_
  rintro e w3 ⟨sa, sc, rfl, rS, b3⟩
  have B3 := B2.trans (b3.mono B2.size)
  have z3 := z2.keep b3
  have HB3 : Hid _ := B3
  have HZ3 : Hid _ := z3
  have HRS : Hid _ := rS
  have hz3 := z3.lt
  obtain ⟨q0, q1⟩ := z3.two
  clear qA z2 b3 B2 rS z3
  go_wp2_with fail
  refine (CA.out w3 (RdI.keep HRA.out B3)).mono ?_
  rintro e w4 ⟨gB, jB, rfl, qB, jsB, b4⟩
  have hs4 := b4.size
  have hgB := qB.at_
  have apB := jsB.ap (Nat.lt_succ_self _) hgB qB.own.lt
  have b4' : Below w4.heap.size w4 (w4.alloc (.cells #[.slice (some ⟨gB, 0, none⟩) n n, .int .i64 nx] 30)) := (Below.refl _ w4).alloc (Nat.le_refl _) _
  have mB := BoxT.new w4 30 (some ⟨gB, 0, none⟩) n n nx
  clear q0 q1
  go_wp2_with fail
  obtain ⟨W4, hW4⟩ : ∃ W, w4.alloc (.cells #[.slice (some ⟨gB, 0, none⟩) n n, .int .i64 nx] 30) = W := ⟨_, rfl⟩
  rw [hW4] at b4' mB ⊢
  clear hW4
  have C5 := b4.trans (b4'.mono b4.size)
  have qB5 := qB.keep b4'
  have jsB5 := jsB.keep b4'
  have hsW4 := b4'.size
  have hmB := mB.lt
  obtain ⟨Hi, hHi⟩ : ∃ T, w4.heap.size = T := ⟨_, rfl⟩
  obtain ⟨Lo, hLo⟩ : ∃ T, w3.heap.size = T := ⟨_, rfl⟩
  rw [hHi] at mB hsW4 hmB apB hs4 ⊢
  rw [hLo] at apB hs4 hgB qB5 C5 hz3
  have HLO : Hid (Lo ≤ w3.heap.size) := by show _ ≤ _; omega
  clear qB jsB b4 b4' B3
  refine (CI.out W4 _ gB _ qB5).mono ?_
  rintro e w6 ⟨va, vc, rfl, oV, b6⟩
  have C6 := C5.trans (b6.mono (Nat.le_trans HLO.out C5.size))
  have qB6 := qB5.keep b6
  have jsB6 := jsB5.keep b6
  have mB6 := mB.keep b6
  have hs6 := b6.size
  obtain ⟨BV, hBV⟩ : ∃ T, W4.heap.size = T := ⟨_, rfl⟩
  rw [hBV] at oV hs6 hsW4 hmB
  clear qB5 jsB5 mB b6 C5
  have HCE : Hid (∀ (W : World) (x1 : Option Addr) (y1 : Nat), Below Lo w3 W → RdS W x1 L → Calls Tryz.prog 9 #[.slice x1 m y1, .slice sa m sc] W fun e w' => e = .returned (.bool true) ∧ Below W.heap.size W w') := fun W x1 y1 hW hx => eqSV x1 sa m y1 sc L W HML.out (by omega) hx (RdS.keep HRS.out (by rw [hLo]; exact hW))
  have HBW : Hid (∀ W : World, Below Lo w3 W → Below w.heap.size w W) := fun W hW => HB3.out.trans ((show Below w3.heap.size w3 W by rw [hLo]; exact hW).mono HB3.out.size)
  have HZW : Hid (∀ W : World, Below Lo w3 W → BoxT W G0 24 a n cap nx) := fun W hW => HZ3.out.keep (by rw [hLo]; exact hW)
  clear HB3 HZ3 HRS hLo
  go_wp2_with fail
  refine (HCE.out w6 va vc C6 (own_rdS oV)).mono ?_
  rintro e w7 ⟨rfl, b7⟩
  have C7 := C6.trans (b7.mono (Nat.le_trans HLO.out C6.size))
  have qB8 := qB6.keep b7
  have jsB8 := jsB6.keep b7
  have mB8 := mB6.keep b7
  have oV8 := own_keep oV b7
  have hs7 := b7.size
  have z8 := HZW.out w7 C7
  clear qB6 jsB6 mB6 oV b7 C6
  obtain ⟨q0, q1⟩ := z8.two
  obtain ⟨p0, p1⟩ := mB8.two
  have r8 := RdI.keep HRA.out (HBW.out w7 C7).drew
  have qB8d := qB8.keep (Below.refl w7.heap.size w7).drew
  have mB8d := mB8.keep (Below.refl w7.heap.size w7).drew
  have z8d := z8.keep (Below.refl w7.heap.size w7).drew
  go_upto_region 10 with fail
  go_region_held3 (fun W : World => W.cell? ⟨Hi, 0, none⟩ = some (.slice (some ⟨gB, 0, none⟩) n n) ∧ W.cell? ⟨Hi, 1, none⟩ = some (.int .i64 nx) ∧ W.cell? ⟨G0, 0, none⟩ = some (.slice a n cap) ∧ W.cell? ⟨G0, 1, none⟩ = some (.int .i64 nx)) (go_keep) (first
    | (go_at_call 7; (with_reducible refine (CA.out _ r8).mono ?_); rintro e wA ⟨gC, jC, rfl, qC, _, b9⟩; have qAA := qB8d.keep b9; obtain ⟨t0, t1⟩ := (mB8d.keep b9).two; obtain ⟨t2, t3⟩ := (z8d.keep b9).two)
    | (go_at_call 10; refine (eqTabQ _ _ gB gC n n n nx rs _ _ _ hn1 HS.out qAA qC).mono ?_; rintro e wB ⟨rfl, b10⟩; obtain ⟨u0, u1⟩ := ((mB8d.keep b9).keep b10).two; obtain ⟨u2, u3⟩ := ((z8d.keep b9).keep b10).two))
  have bR : Below w7.heap.size w7 wB := ((Below.refl w7.heap.size w7).drew.trans b9).trans (b10.mono b9.size)
  have C9 := C7.trans (bR.mono (Nat.le_trans HLO.out C7.size))
  have qB9 := qB8.keep bR
  have jsB9 := jsB8.keep bR
  have mB9 := mB8.keep bR
  have oV9 := own_keep oV8 bR
  have hs9 := bR.size
  clear t0 t1 t2 t3 u0 u1 u2 u3 b9 b10 qC qAA q0 q1 p0 p1 r8 qB8d mB8d z8d oV8 qB8 jsB8 mB8 z8 bR C7
  obtain ⟨p0, p1⟩ := mB9.two
  go_wp2_with fail
  refine (CK.out wB gB Lo Hi jB qB9.cpd.1 apB (by omega) qB9.own jsB9.G).mono ?_
  rintro e w10 ⟨rfl, hTL⟩
  have hout := hTL.out
  have C10 : Below Lo w3 w10 := Below.outs C9 hout (Nat.le_refl _) HLO.out
  have oV10 := own_outs oV9 hout (by omega)
  obtain ⟨qk, hqk⟩ : ∃ q, qAt 1 jB n = q := ⟨_, rfl⟩
  rw [hqk]
  have hqk0 : ¬ (qk : Int) < 0 := by omega
  clear oV9 qB9 jsB9 mB9 hTL hout p0 p1 hqk apB C9
  go_wp2_with fail
  refine (HCE.out w10 va vc C10 (own_rdS oV10)).mono ?_
  rintro e w11 ⟨rfl, b11⟩
  have C11 := C10.trans (b11.mono (Nat.le_trans HLO.out C10.size))
  have oV11 := own_keep oV10 b11
  clear oV10 b11 C10
  go_wp2_with fail
  refine (markSV BV (.slice va m vc) m L w11 (by omega) oV11).mono ?_
  rintro e w12 ⟨rfl, oM, hg⟩
  have C12 : Below Lo w3 w12 := C11.grown hg (Nat.le_trans HLO.out C11.size) (fun j hj => by have := own_low oV11 j hj; omega)
  clear C11 oV11 hg
  go_wp2_with fail
  refine (heldSV BV (.slice va m vc) m w12 (by omega) oM).mono ?_
  rintro e w13 ⟨rfl, b13⟩
  have C13 := C12.trans (b13.mono (Nat.le_trans HLO.out C12.size))
  have oM13 := own_keep oM b13
  clear oM b13 C12
  have hmm0 : ¬ ((m : Int) + 1) < 0 := by omega
  have hmme : ((m : Int) + 1 != (m : Int) + 1) = false := by simp
  have hmmf : ((m : Int) + 1 == (m : Int) + 1) = true := by simp
  obtain ⟨q0, q1⟩ := (HZW.out w13 C13).two
  go_wp2_with fail
  refine (CA.out w13 (RdI.keep HRA.out (HBW.out w13 C13))).mono ?_
  rintro e w14 ⟨gD, jD, rfl, qD, _, b14⟩
  have C14 := C13.trans (b14.mono (Nat.le_trans HLO.out C13.size))
  have oM14 := own_keep oM13 b14
  clear q0 q1 oM13 b14 C13
  go_wp2_with fail
  refine (CI.out w14 _ gD _ qD).mono ?_
  rintro e w15 ⟨ha, hc, rfl, oH, b15⟩
  have C15 := C14.trans (b15.mono (Nat.le_trans HLO.out C14.size))
  have oM15 := own_keep oM14 b15
  clear oM14 b15 C14 qD
  go_wp2_with fail
  refine (HCE.out w15 ha hc C15 (own_rdS oH)).mono ?_
  rintro e w16 ⟨rfl, b16⟩
  have C16 := C15.trans (b16.mono (Nat.le_trans HLO.out C15.size))
  have oM16 := own_keep oM15 b16
  clear oM15 b16 C15 oH
  go_wp2_with fail
  refine (heldSV BV (.slice va m vc) m w16 (by omega) oM16).mono ?_
  rintro e w17 ⟨rfl, b17⟩
  have C17 := C16.trans (b17.mono (Nat.le_trans HLO.out C16.size))
  have hend : Hid _ := HBW.out w17 C17
  clear oM16 C16 C17 b17
  go_wp2
  go_ret
  exact ⟨rfl, hend.out⟩

/-! ### THE ROW's STEP: WRITTEN OUT: LEAVE IT -/
set_option maxRecDepth 100000 in
theorem lifted (os : Os) (started : os.Started) (H : Type) (enc : TypeId × Value → H) :
    ReturnsInHanded {} Tryz.checked os 3 .any (Rows.fnExactPathsOfSpec.pre6 enc Tryz.prog Tryz.f3 Rows.fnExactPathsOfRow.domain false) (Rows.fnExactPathsOfSpec.post enc Tryz.prog Tryz.f3 false true false false) := by
  refine returnsInHanded_of_change (C := Tryz.checked) own started (by kernel_rfl) Tryz.func3
    (ChangeSpec.witness6 (enc := enc) (C := Tryz.checked) false ⟨#[], #[.agg #[.slice none 0 0, .int .i64 0]], []⟩ 8 (by kernel_rfl) (by kernel_rfl) (by kernel_rfl) (by kernel_rfl)) ?_
  intro W base args ds gs before hval0 hW hcnd _
  have hval : ∀ (j : Nat) t v, Tryz.f3.params[j]? = some t → args[j]? = some v → Value.okWide Tryz.prog W .any base t v := hval0
  have hW' := hW
  obtain ⟨p, q, hA0, hV, rfl, hfz, hnd⟩ := hW
  have hA : DataW.TrodAll enc Tryz.prog W 0 (fun _ => true) true Tryz.f3.params.toList args.toList ds p := hA0
  rw [Tryz.params3] at hA hval
  obtain ⟨v0, vs0, d0, ds0, p0, q0, hargs, rfl, rfl, h0, r0⟩ := trodAll_cons hA
  obtain ⟨rfl, rfl, rfl⟩ := trodAll_nil r0
  obtain rfl : args = #[v0] := by cases args; simp_all
  obtain ⟨rfl, rfl⟩ := trodVars_none hV
  have k0 := h0
  have lt0 : ∀ x ∈ p0, x.block < W.heap.size := by obtain ⟨m, hm⟩ := k0; exact DataW.trod_lt m _ _ _ hm
  obtain ⟨x0, c0, n0, rs0, rfl, wn0, m0, i0, w0⟩ := open_tab (hval 0 24 v0 rfl rfl) h0
  clear hA0 hval0
  refine (walk x0 c0 n0 rs0 W m0 i0 w0).mono fun e W' ⟨he, bel⟩ => ?_
  subst he
  exact ⟨_, rfl, _, _, _, [], _, [], hW', trodAll_mk1 (shut_bool Tryz.underlying4 _), (trodAll_cons_mk (Below.trod laidOut (by kernel_rfl) (of_decide_eq_true (by kernel_rfl)) k0 bel lt0) trodAll_mk0), rfl, bel.frame _, fun h => by cases h⟩

theorem over : Rows.fnExactPathsOfRow.holds Tryz.pinned (OpenSpec.ofChange Rows.fnExactPathsOfSpec) :=
  OpenClaim.holds_of_wide 3 Tryz.f3 rfl rfl rfl rfl rfl rfl rfl ⟨rfl, rfl, rfl, rfl, rfl⟩ rfl rfl rfl rfl rfl (by kernel_rfl) Tryz.func3 (by kernel_rfl)
    (of_decide_eq_true (by kernel_rfl)) (by unfold Func.isWrapper; first | (rw [if_pos (by decide +kernel)]; kernel_rfl) | (rw [if_neg (by decide +kernel)]; exact ⟨rfl, rfl⟩))
    (fun os started H enc _ => lifted os started H enc)

/-- ████ THE STATEMENT ████ -/
theorem proved : Rows.FnExactPathsOfSaid := over
#print axioms proved
end Go.Proofs.YtnadeelnjhollaaGreat.fnExactPathsOf
