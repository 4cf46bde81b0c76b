/-
  At every slice of bytes both GetTable functions answer the same table, in memory of its own.
  The frame (all but the walk) is the text that the guide's own program writes for this row.
-/
import Derived.Test.YtmkcadnpleijdaaRows
import Derived.Test.YtmkcadnpleijdaaTbJQ
import Derived.Test.YtmkcadnpleijdaaTbTQ
import Derived.Test.YtmkcadnpleijdaaOpWQ
import Derived.WalkKit
import Derived.ProofKit
import Derived.OpenShut
import Derived.ShutString
import Derived.ChangeOld
import Derived.Below
namespace Go.Proofs.Ytmkcadnpleijdaa.fnExactGetTable
open Go.ChangeShapes Go.WideShapes Go.ChangeAt Go.RowKit
open Go.ChangeMaps (open_string shut_string)
set_option linter.unusedVariables false

theorem own : ownKnob Try.prog.godebug = none := by kernel_rfl
theorem laidOut : laidOutB Try.prog = true := by kernel_rfl

/-- WHAT THE WALK IS TOLD OF A SLICE OF INTEGERS THAT CAME IN: it is nil; or it leads to a row of 'cap' cells, the numbers 'zs' (the first 'len' are its elements, the rest its spare room), each fitting its kind. -/
def IsRow (k : IntKind) (w : World) (a : Option Addr) (len cap : Nat) (zs : List Int) : Prop :=
  (a = none ∧ len = 0 ∧ cap = 0 ∧ zs = []) ∨
  ∃ x, a = some x ∧ len ≤ cap ∧ cap ≤ maxLen ∧ zs.length = cap ∧ (∀ i, i < zs.length → w.cell? (x.add i) = some (.int k (zs.getD i 0))) ∧ ∀ n ∈ zs, (Lit.int k n).wf = true

/-! ### STEP 1: THE WALK: the Go text returns true, AND WRITES NOTHING THAT WAS THERE: 'Below w.heap.size w w'' (Derived/Below.lean: '.refl', '.alloc', '.drew', '.setCell' at a new block, '.trans'). Open each 'IsRow' by 'rcases' AHEAD of 'go_enter'; part every test ahead of the walk. -/
set_option maxRecDepth 100000 in
set_option maxHeartbeats 8000000 in
theorem walk (a0 : Option Addr) (len0 cap0 : Nat) (z0 : List Int) (w : World) (w0 : IsRow .u8 w a0 len0 cap0 z0) :
    Calls Try.prog 6 #[.slice a0 len0 cap0] w fun e w' => e = .returned (.bool true) ∧ Below w.heap.size w w' := by
  obtain ⟨zs, hn, hr, hb⟩ := rd_of_row w0
  clear w0
  have hn' : Hid (zs.length = len0) := hn
  by_cases hbig : 1048576 < len0
  · have : (1048576 : Int) < (len0 : Int) := by omega
    go_enter Try.func6, Try.ntmps6
    go_wp2
    go_ret
    exact ⟨rfl, Below.refl _ _⟩
  have hsm : len0 ≤ 1048576 := by omega
  have hnb : ¬ (1048576 : Int) < (len0 : Int) := by omega
  have cT : ∀ W : World, Below w.heap.size w W → Calls Try.prog 24 #[.slice a0 len0 cap0] W fun e w' => e = .returned (.slice (some ⟨W.heap.size, 0, none⟩) len0 len0) ∧ Own w' W.heap.size len0 len0 zs ∧ Below W.heap.size W w' := fun W hW => toByteS_any a0 len0 cap0 zs W hn hsm (hr.keep hW)
  have cS := fun (W : World) (g : Nat) (h : Own W g len0 len0 zs) => getTableSO (some ⟨g, 0, none⟩) len0 len0 zs W hn hsm (Nat.le_refl _) h.rd hb
  have cI := fun (W : World) (g : Nat) (h : Own W g len0 len0 zs) => getTableIO (some ⟨g, 0, none⟩) len0 len0 zs W hn hsm (Nat.le_refl _) h.rd hb
  have hDs := tgQs_len zs
  have hNM : ∀ r ∈ tgQs zs, r.name.size ≤ 1048576 := fun r hr => by have := tgQs_nm zs r hr; omega
  generalize tgQs zs = ps at cS cI hDs hNM
  generalize tgNx zs = nx at cS cI
  generalize tgOk zs = ok at cS cI
  obtain ⟨n, hnd⟩ : ∃ n, ps.length = n := ⟨_, rfl⟩
  rw [hnd] at cS cI hDs
  have hl : n ≤ 1048576 := by omega
  have cE := fun (W : World) (a b : Option Addr) (c d : Nat) (h1 : WR W a n ps) (h2 : WR W b n ps) => eqTable_same nx a b n c d ps W h1 h2
  have cM := fun (W : World) (a : Option Addr) (c : Nat) (h : OwnRw W (.slice a n c) n ps) => markTable_any nx a n c ps W (by omega) h
  have cH := fun (W : World) (a : Option Addr) (c : Nat) (h : OwnRw W (.slice a n c) n (mkRw 1 n)) => heldTable_any nx a n c W (1 + 5 * n) rfl (by omega) h
  have CT : Hid _ := cT
  have CS : Hid _ := cS
  have CI : Hid _ := cI
  have CE : Hid _ := cE
  have CM : Hid _ := cM
  have CH : Hid _ := cH
  have hoo : (ok != ok) = false := by simp
  clear cT cS cI cE cM cH hr hb hn hnd
  go_enter Try.func6, Try.ntmps6
  go_wp2_with fail
  refine (CT.out w (Below.refl _ _)).mono ?_
  rintro e w1 ⟨rfl, o1, b1⟩
  go_wp2_with fail
  refine (CS.out w1 w.heap.size o1).mono ?_
  rintro e w2 ⟨⟨a1, c1, rfl, gS, _⟩, b2⟩
  have B2 := b1.trans (b2.mono b1.size)
  have b2' : Below w2.heap.size w2 (w2.alloc (.cells #[.int .i64 nx, .slice a1 n c1] 26)) := (Below.refl _ w2).alloc (Nat.le_refl _) _
  have zS := Blk.new w2 26 #[.int .i64 nx, .slice a1 n c1]
  clear o1 b1 b2
  go_wp2_with fail
  obtain ⟨W2, hW2⟩ : ∃ W, w2.alloc (.cells #[.int .i64 nx, .slice a1 n c1] 26) = W := ⟨_, rfl⟩
  rw [hW2] at b2' zS ⊢
  clear hW2
  have rS := (gS.keep b2').wr hl hNM
  have B2' := B2.trans (b2'.mono B2.size)
  obtain ⟨TS, hTS⟩ : ∃ T, w2.heap.size = T := ⟨_, rfl⟩
  rw [hTS] at zS ⊢
  clear gS B2 b2'
  refine (CT.out W2 B2').mono ?_
  rintro e w3 ⟨rfl, o3, b3⟩
  have hl3 := o3.lt
  obtain ⟨gx, hgx⟩ : ∃ T, W2.heap.size = T := ⟨_, rfl⟩
  have hgx' : W2.heap.size ≤ gx := Nat.le_of_eq hgx
  rw [hgx] at o3 hl3 ⊢
  go_wp2_with fail
  refine (CI.out w3 gx o3).mono ?_
  rintro e w4 ⟨⟨d1, e1, rfl, gI, hfr⟩, b4⟩
  have D4 := b3.trans (b4.mono b3.size)
  have o4 := o3.keep b4 o3.lt
  have b4' : Below w4.heap.size w4 (w4.alloc (.cells #[.int .i64 nx, .slice d1 n e1] 26)) := (Below.refl _ w4).alloc (Nat.le_refl _) _
  have zI := Blk.new w4 26 #[.int .i64 nx, .slice d1 n e1]
  have D5 := D4.trans (b4'.mono D4.size)
  obtain ⟨x0, x1⟩ := (zS.keep D5).duo
  clear o3 b3
  go_wp2_with fail
  obtain ⟨W4, hW4⟩ : ∃ W, w4.alloc (.cells #[.int .i64 nx, .slice d1 n e1] 26) = W := ⟨_, rfl⟩
  have hs4 : W4.heap.size = w4.heap.size + 1 := by rw [← hW4]; simp
  rw [hW4] at b4' zI D5 ⊢
  clear hW4 x0 x1
  have gI5 := gI.keep b4'
  have o5 := o4.keep b4' o4.lt
  have hsb4 := b4.size
  obtain ⟨TI, hTI⟩ : ∃ T, w4.heap.size = T := ⟨_, rfl⟩
  rw [hTI] at zI hs4 hsb4 ⊢
  have hgI : ∀ g, (Value.slice d1 n e1).ownBlock = some g → g < TI := fun g hg => by rw [← hTI]; exact OwnE.lt gI hg
  clear gI o4 b4 b4' D4 hTI
  refine (CE.out W4 _ _ _ _ (gI5.wr hl hNM) (rS.keep D5)).mono ?_
  rintro e w5 ⟨rfl, b5⟩
  have D6 := D5.trans (b5.mono D5.size)
  have gI6 := gI5.keep b5
  have o6 := o5.keep b5 o5.lt
  have zI6 := zI.keep b5
  clear gI5 o5 zI b5 D5
  go_wp2_with fail
  have B6 := B2'.trans (D6.mono B2'.size)
  refine (CT.out w5 B6).mono ?_
  rintro e w6 ⟨rfl, o7, b6⟩
  have D7 := D6.trans (b6.mono D6.size)
  have gI7 := gI6.keep b6
  have o7' := o6.keep b6 o6.lt
  have zI7 := zI6.keep b6
  clear gI6 o6 zI6 b6 D6
  go_wp2_with fail
  refine (eqByteS_true _ _ len0 len0 len0 zs w6 hn'.out (by omega) o7'.rd o7.rd).mono ?_
  rintro e w7 ⟨rfl, b7⟩
  have D8 := D7.trans (b7.mono D7.size)
  have gI8 := gI7.keep b7
  have o8 := o7'.keep b7 o7'.lt
  have zI8 := zI7.keep b7
  clear gI7 o7 o7' zI7 b7 D7
  go_wp2_with fail
  refine (markBG (.slice (some ⟨gx, 0, none⟩) len0 len0) len0 1 zs w7 (Nat.le_refl _) (by omega) o8.rowB).mono ?_
  rintro e w8 ⟨rfl, m8, g8'⟩
  have g8 : w7.grownBy w8 (some gx) := g8'
  clear g8'
  have D9 : Below W2.heap.size W2 w8 := below_gro D8 (Nat.le_refl _) g8 (fun g hg => by simp at hg; omega)
  have gI9 := gI8.gr g8 (fun g hg => by have := hfr g hg; simp; omega)
  have zI9 : Blk w8 TI 26 _ := Blk.kept zI8 g8 (by omega)
  obtain ⟨k8, hk8⟩ : ∃ k, 1 + len0 = k := ⟨_, rfl⟩
  rw [hk8]
  have hk0 : ¬ (k8 : Int) < 0 := by omega
  clear hk8
  obtain ⟨x0, x1⟩ := (zS.keep D9).duo
  obtain ⟨y0, y1⟩ := zI9.duo
  clear gI8 o8 zI8 m8 g8 D8
  go_wp2_with fail
  refine (CE.out w8 _ _ _ _ (gI9.wr hl hNM) (rS.keep D9)).mono ?_
  rintro e w9 ⟨rfl, b9⟩
  have D10 := D9.trans (b9.mono D9.size)
  have gI10 := gI9.keep b9
  have zI10 := zI9.keep b9
  clear gI9 zI9 b9 x0 x1 y0 y1 D9
  obtain ⟨y0, y1⟩ := zI10.duo
  go_wp2_with fail
  refine (CM.out w9 _ _ gI10).mono ?_
  rintro e w10 ⟨rfl, mG, hgr⟩
  have D11 : Below W2.heap.size W2 w10 := Below.svs D10 hgr (fun g hg => by have := hfr g (by simpa using hg); omega) (Nat.le_refl _)
  have zI11 : Blk w10 TI 26 _ := Blk.svs zI10 hgr (fun hf => by have := hgI TI (by simpa using hf); omega)
  clear gI10 zI10 hgr y0 y1 D10
  obtain ⟨mm, hmm⟩ : ∃ m, 1 + 5 * n = m := ⟨_, rfl⟩
  rw [hmm] at CH ⊢
  obtain ⟨y0, y1⟩ := zI11.duo
  go_wp2_with fail
  refine (CH.out w10 _ _ mG).mono ?_
  rintro e w11 ⟨rfl, b11⟩
  have D12 := D11.trans (b11.mono D11.size)
  have mG12 := mG.keep b11
  have zI12 := zI11.keep b11
  have hmm0 : ¬ (mm : Int) < 0 := by omega
  have hmme : ((mm : Int) != (mm : Int)) = false := by simp
  clear mG zI11 b11 y0 y1 D11
  have B12 := B2'.trans (D12.mono B2'.size)
  go_wp2_with fail
  refine (CT.out w11 B12).mono ?_
  rintro e w12 ⟨rfl, o13, b12⟩
  have D13 := D12.trans (b12.mono D12.size)
  have mG13 := mG12.keep b12
  have zI13 := zI12.keep b12
  clear mG12 zI12 b12 D12
  go_wp2_with fail
  refine (CI.out w12 _ o13).mono ?_
  rintro e w13 ⟨⟨p1, q1, rfl, gJ, _⟩, b13⟩
  have D14 := D13.trans (b13.mono D13.size)
  have mG14 := mG13.keep b13
  have zI14 := zI13.keep b13
  have b14' : Below w13.heap.size w13 (w13.alloc (.cells #[.int .i64 nx, .slice p1 n q1] 26)) := (Below.refl _ w13).alloc (Nat.le_refl _) _
  have D15 := D14.trans (b14'.mono D14.size)
  obtain ⟨x0, x1⟩ := (zS.keep D15).duo
  clear mG13 zI13 b13 o13 D13
  go_wp2_with fail
  obtain ⟨W13, hW13⟩ : ∃ W, w13.alloc (.cells #[.int .i64 nx, .slice p1 n q1] 26) = W := ⟨_, rfl⟩
  rw [hW13] at b14' D15 ⊢
  clear hW13 x0 x1
  have gJ15 := gJ.keep b14'
  have mG15 := mG14.keep b14'
  have zI15 := zI14.keep b14'
  clear gJ mG14 zI14 D14 b14'
  refine (CE.out W13 _ _ _ _ (gJ15.wr hl hNM) (rS.keep D15)).mono ?_
  rintro e w16 ⟨rfl, b16⟩
  have D16 := D15.trans (b16.mono D15.size)
  have mG16 := mG15.keep b16
  have zI16 := zI15.keep b16
  clear gJ15 mG15 zI15 b16 D15
  obtain ⟨y0, y1⟩ := zI16.duo
  go_wp2_with fail
  refine (CH.out w16 _ _ mG16).mono ?_
  rintro e w17 ⟨rfl, b17⟩
  have D17 := D16.trans (b17.mono D16.size)
  clear mG16 zI16 b17 y0 y1
  go_wp2
  go_ret
  exact ⟨rfl, B2'.trans (D17.mono B2'.size)⟩

/-! ### THE ROW's STEP: WRITTEN OUT: LEAVE IT -/
set_option maxRecDepth 100000 in
theorem lifted (os : Os) (started : os.Started) (H : Type) (enc : TypeId × Value → H) :
    ReturnsInHanded {} Try.checked os 6 .any (Rows.fnExactGetTableSpec.pre6 enc Try.prog Try.f6 Rows.fnExactGetTableRow.domain false) (Rows.fnExactGetTableSpec.post enc Try.prog Try.f6 false true false false) := by
  refine returnsInHanded_of_change (C := Try.checked) own started (by kernel_rfl) Try.func6
    (ChangeSpec.witness6 (enc := enc) (C := Try.checked) false ⟨#[], #[.slice none 0 0], []⟩ 8 (by kernel_rfl) (by kernel_rfl) (by kernel_rfl) (by kernel_rfl)) ?_
  intro W base args ds gs before hval0 hW hcnd _
  have hval : ∀ (j : Nat) t v, Try.f6.params[j]? = some t → args[j]? = some v → Value.okWide Try.prog W .any base t v := hval0
  have hW' := hW
  obtain ⟨p, q, hA0, hV, rfl, hfz, hnd⟩ := hW
  have hA : DataW.TrodAll enc Try.prog W 0 (fun _ => true) true Try.f6.params.toList args.toList ds p := hA0
  rw [Try.params6] at hA hval
  obtain ⟨v0, vs0, d0, ds0, p0, q0, hargs, rfl, rfl, h0, r0⟩ := trodAll_cons hA
  obtain ⟨rfl, rfl, rfl⟩ := trodAll_nil r0
  obtain rfl : args = #[v0] := by cases args; simp_all
  obtain ⟨rfl, rfl⟩ := trodVars_none hV
  obtain ⟨a0, len0, cap0, rfl⟩ := okWide_slice Try.underlying22 (hval 0 22 v0 rfl rfl)
  have k0 := h0
  have lt0 : ∀ x ∈ p0, x.block < W.heap.size := by obtain ⟨m, hm⟩ := k0; exact DataW.trod_lt m _ _ _ hm
  obtain ⟨z0, w0⟩ : ∃ zs, IsRow .u8 W a0 len0 cap0 zs := by
    obtain ⟨fuel, hf⟩ := h0
    rcases open_ints Try.underlying22 Try.underlying5 (by kernel_rfl) hf with ⟨hcs, _⟩ | ⟨x, l, c, zs, hcs, _, hl, hm, hz, _, hcell, hwz⟩
    · simp [Value.cells] at hcs
      obtain ⟨rfl, rfl, rfl⟩ := hcs
      exact ⟨[], .inl ⟨rfl, rfl, rfl, rfl⟩⟩
    · simp [Value.cells] at hcs
      obtain ⟨rfl, rfl, rfl⟩ := hcs
      exact ⟨zs, .inr ⟨_, rfl, hl, hm, by simpa using hz, hcell, hwz⟩⟩
  clear hA0 hval0
  refine (walk a0 len0 cap0 z0 W w0).mono fun e W' ⟨he, bel⟩ => ?_
  subst he
  exact ⟨_, rfl, _, _, _, [], _, [], hW', trodAll_mk1 (shut_bool Try.underlying4 _), (trodAll_cons_mk (Below.trod laidOut (by kernel_rfl) (of_decide_eq_true (by kernel_rfl)) k0 bel lt0) trodAll_mk0), rfl, bel.frame _, fun h => by cases h⟩

theorem over : Rows.fnExactGetTableRow.holds Try.pinned (OpenSpec.ofChange Rows.fnExactGetTableSpec) :=
  OpenClaim.holds_of_wide 6 Try.f6 rfl rfl rfl rfl rfl rfl rfl ⟨rfl, rfl, rfl, rfl, rfl⟩ rfl rfl rfl rfl rfl (by kernel_rfl) Try.func6 (by kernel_rfl)
    (of_decide_eq_true (by kernel_rfl)) (by unfold Func.isWrapper; first | (rw [if_pos (by decide +kernel)]; kernel_rfl) | (rw [if_neg (by decide +kernel)]; exact ⟨rfl, rfl⟩))
    (fun os started H enc _ => lifted os started H enc)

/-- ████ THE STATEMENT ████ -/
theorem proved : Rows.FnExactGetTableSaid := over
#print axioms proved
end Go.Proofs.Ytmkcadnpleijdaa.fnExactGetTable
