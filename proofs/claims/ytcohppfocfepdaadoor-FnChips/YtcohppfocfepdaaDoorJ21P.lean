/-
  Joined: ChEr, ChBi.
-/
import Derived.Test.YtcohppfocfepdaaDoorJ19P
import Derived.Test.YtcohppfocfepdaaDoorJ20P
import Derived.Test.YtcohppfocfepdaaDoorJ16P
namespace Go.Proofs.YtcohppfocfepdaaDoor
section
open Go.RowKit
/-- A chip and a code were answered. -/
def ChCA (w : World) (ds : List BkD) (code : Int) (e : Ending) (w' : World) : Prop := ∃ a n c qs, e = .returned (.tuple #[.agg #[.slice a n c], .int .i64 code]) ∧ NewBs w' w.heap.size (.slice a n c) ds qs ∧ qs.length = n ∧ Below w.heap.size w w'
/-- The code of an erase, and the chip behind it. -/
def codeE (ok : Bool) (ds : List BkD) (x : Int) : Int := mayD ok ds x (wornAt ds x)
def eraseAt (ds : List BkD) (k : Nat) : List BkD := match ds[k]? with | some b => ds.set k ⟨List.replicate 8 ⟨false, []⟩, b.wear + 1, b.bad⟩ | none => ds
def eraseD (ok : Bool) (ds : List BkD) (x : Int) : List BkD := if codeE ok ds x = 0 then eraseAt ds x.toNat else ds
theorem code_zero {ok : Bool} {bs : List BkR} {x : Int} {full : Bool} (h : mayD ok (bs.map BkR.D) x full = 0) : ok = true ∧ ∃ (k : Nat) (r : BkR), x = (k : Int) ∧ bs[k]? = some r ∧ r.bad = false ∧ full = false := by
  unfold mayD at h
  split at h
  · omega
  · rename_i h1
    have hx : 0 ≤ x ∧ x < (bs.length : Int) := by simp at h1; omega
    obtain ⟨k, rfl⟩ : ∃ k : Nat, x = (k : Int) := ⟨x.toNat, by omega⟩
    have hk : bs[k]? = some bs[k] := List.getElem?_eq_getElem (by omega)
    split at h
    · omega
    · rename_i h2
      split at h
      · omega
      · rename_i h3
        refine ⟨by cases ok <;> simp_all, k, _, rfl, hk, ?_, by simpa using h3⟩
        simpa [hk, BkR.D] using h2
set_option maxRecDepth 100000 in
set_option maxHeartbeats 8000000 in
theorem eraseS (a : Option Addr) (n cap : Nat) (bs : List BkR) (x : Int) (w : World) (ht : CR w a n bs) :
    Calls Tryd.prog 8 #[.agg #[.slice a n cap], .int .i64 x] w (ChCA w (eraseD (chipOkB (bs.map BkR.D)) (bs.map BkR.D) x) (codeE (chipOkB (bs.map BkR.D)) (bs.map BkR.D) x)) := by
  have hnn := ht.n
  have B0 : Below w.heap.size w ((w.alloc (.cells #[.slice a n cap] 26)).alloc (.cells #[.slice none 0 0] 26)) := ((Below.refl _ w).alloc (Nat.le_refl _) _).alloc (by simp) _
  have z0 := (Blk.new w 26 #[.slice a n cap]).alloc (.cells #[.slice none 0 0] 26)
  have z1 := Blk.new (w.alloc (.cells #[.slice a n cap] 26)) 26 #[.slice none 0 0]
  simp only [World.size_alloc] at z1
  have hws : ((w.alloc (.cells #[.slice a n cap] 26)).alloc (.cells #[.slice none 0 0] 26)).heap.size = w.heap.size + 2 := by simp
  obtain ⟨H, hH⟩ : ∃ H, w.heap.size = H := ⟨_, rfl⟩
  rw [hH] at z0 z1 hws
  obtain ⟨i0, hi, hz0, hz1, hz2⟩ := info_parts Tryd.infoPage
  obtain ⟨M, hM⟩ : ∃ M, M = madeCells (Value.agg #[.bool false, .slice none 0 0]).cells 16 := ⟨_, rfl⟩
  have hmk : ∀ W : World, (Instr.makeSlice 32 (.int .i64 8) (.int .i64 8)).run Tryd.prog W = .ok (.slice (some ⟨W.heap.size, 0, none⟩) 8 8) (W.alloc (.cells M 55)) := fun W => by
    have h := run_make (P := Tryd.prog) W 32 55 i0 _ Tryd.underlying32 hi hz0 .i64 .i64 8 8 (by omega) (by omega) (by rw [hz2]; omega) (by omega)
    rw [hz1] at h
    rw [hM]
    exact h
  have HM : Hid _ := hM
  clear hM hi hz0 hz1 hz2
  have cE := fun (W : World) (h : CR W a n bs) => l10EraseS a n cap bs x W h
  generalize hok : chipOkB (bs.map BkR.D) = ok at cE
  obtain ⟨code, hcode⟩ : ∃ code, codeE ok (bs.map BkR.D) x = code := ⟨_, rfl⟩
  unfold codeE at hcode
  rw [hcode] at cE
  have CE : Hid _ := cE
  have HOK : Hid (chipOkB (bs.map BkR.D) = ok) := hok
  have HCO : Hid (mayD ok (bs.map BkR.D) x (wornAt (bs.map BkR.D) x) = code) := hcode
  have HD : Hid (eraseD ok (bs.map BkR.D) x = if code = 0 then eraseAt (bs.map BkR.D) x.toNat else bs.map BkR.D) := by show _ = _; unfold eraseD codeE; rw [hcode]
  have HCE : Hid (codeE ok (bs.map BkR.D) x = code) := hcode
  clear cE hok hcode
  go_enter Tryd.func8, Tryd.ntmps8
  have x00 := z0.cell 0
  simp at x00
  go_upto_region 1 with fail
  obtain ⟨W0, hW0⟩ : ∃ W, (w.alloc (.cells #[.slice a n cap] 26)).alloc (.cells #[.slice none 0 0] 26) = W := ⟨_, rfl⟩
  rw [hW0] at B0 z0 z1 hws x00 ⊢
  clear hW0
  have HW : Hid _ := hws
  have HH : Hid (w.heap.size = H) := hH
  have HT : Hid (CR W0 a n bs) := ht.keep B0
  have HB0 : Hid (Below H w W0) := by rw [← hH]; exact B0
  have HZ0 : Hid (Blk W0 H 26 #[.slice a n cap]) := z0
  have HZ1 : Hid (Blk W0 (H + 1) 26 #[.slice none 0 0]) := z1
  have hln : Hid (bs.length = n) := ht.len
  clear ht B0 z0 z1 hH
  go_wp2_with fail
  refine (copyChS a n cap bs W0 HT.out).mono ?_
  rintro e w1 ⟨aC, nC, cC, tC, rfl, qC, hlC, b1⟩
  obtain rfl : nC = n := by rw [← hlC, qC.len]; simp [hln.out]
  have b2 : Below w1.heap.size w1 (w1.alloc (.cells #[.slice aC nC cC] 26)) := (Below.refl _ w1).alloc (Nat.le_refl _) _
  have zX := Blk.new w1 26 #[.slice aC nC cC]
  have y0 := ((Blk.keep HZ0.out b1).keep b2).cell 0
  simp at y0
  clear x00
  go_wp2_with fail
  obtain ⟨W2, hW2⟩ : ∃ W, w1.alloc (.cells #[.slice aC nC cC] 26) = W := ⟨_, rfl⟩
  rw [hW2] at b2 zX y0 ⊢
  clear hW2
  obtain ⟨X, hX⟩ : ∃ X, w1.heap.size = X := ⟨_, rfl⟩
  have hX0 : W0.heap.size ≤ X := by rw [← hX]; exact b1.size
  rw [hX] at zX ⊢
  have hFX : Hid (∀ g ∈ fpBs (.slice aC nC cC) tC, g < X) := fun g hg => by rw [← hX]; exact qC.own.lt g hg
  have q2 := qC.keep b2
  have B2 : Below W0.heap.size W0 W2 := b1.trans (b2.mono b1.size)
  clear qC b1 b2 hX
  refine (CE.out W2 (HT.out.keep B2)).mono ?_
  rintro e w3 ⟨rfl, b3⟩
  have q3 := q2.keep b3
  have z3 := zX.keep b3
  have B3 : Below W0.heap.size W0 w3 := B2.trans (b3.mono B2.size)
  clear q2 zX B2 b3 y0
  by_cases hc0 : code = 0
  · subst hc0
    obtain ⟨hokt, k, r, hxk, hrk, hbad, hfull⟩ := code_zero HCO.out
    subst hxk
    have hkn : k < nC := by have := (List.getElem?_eq_some_iff.1 hrk).1; have := hln.out; omega
    have hki : (k : Int) < (nC : Int) := by omega
    obtain ⟨t, htk, hrt⟩ := same_at (f := BkR.D) (ps := bs) (qs := tC) q3.D hrk
    have hrow := q3.own.1
    rw [hlC] at hrow
    rcases hrow.cases with ⟨_, h0, _⟩ | ⟨g, c, hv, hgl⟩
    · omega
    · simp only [Value.slice.injEq] at hv
      obtain ⟨rfl, _, rfl⟩ := hv
      have hgX : g < X := hFX.out g (fpBs_row rfl)
      have hg0 : W0.heap.size ≤ g := q3.new g (fpBs_row rfl)
      have HDC : Hid (tC.map BkR.D = bs.map BkR.D) := q3.D
      have hD : t.wear = r.wear ∧ t.bad = r.bad := by unfold BkR.D at hrt; simp only [BkD.mk.injEq] at hrt; exact ⟨hrt.2.1, hrt.2.2⟩
      have hw0 : 0 ≤ r.wear ∧ r.wear < 100000 := by
        have h1 := HOK.out
        rw [hokt, chipOkB_iff] at h1
        have h2 := h1.2.2 r.D (List.mem_map_of_mem (List.mem_of_getElem? hrk))
        have h3 := h2.2.1
        rw [wornAt_in hrk] at hfull
        simp at hfull
        exact ⟨h3, hfull⟩
      clear hokt
      obtain ⟨b, off, r', ha', hlt, hrk', x3, _, _⟩ := HT.out.some hkn
      obtain rfl : r = r' := by rw [hrk] at hrk'; simpa using hrk'
      have cw := x3.c1
      obtain ⟨wear, hwe⟩ : ∃ wear, r.wear = wear := ⟨_, rfl⟩
      rw [hwe] at cw hw0
      obtain ⟨hw1, hw2⟩ := hw0
      subst ha'
      have x0 := z3.cell 0
      simp at x0
      have hcc0 : ((0 : Int) == 0) = true := rfl
      go_upto_region 4 with fail
      have bM : Below w3.drew.heap.size w3.drew (w3.drew.alloc (.cells M 55)) := (Below.refl _ _).alloc (Nat.le_refl _) _
      have zM := (z3.keep (Below.refl _ _).drew).keep bM
      have xM := zM.cell 0
      simp at xM
      have rowM := (hrow.keep (Below.refl _ _).drew).keep bM
      have rc0 : (w3.drew.alloc (.cells M 55)).cell? ⟨g, k * 3, none⟩ = some (.slice t.a t.ps.length t.cap) := rowM.cell k 0 t htk (by decide)
      have rf0 := rowM.frozen (k * 3)
      have rc1 : w3.cell? ⟨g, k * 3, none⟩ = some (.slice t.a t.ps.length t.cap) := hrow.cell k 0 t htk (by decide)
      have rf1 : w3.frozen? ⟨g, k * 3, none⟩ = false := hrow.frozen (k * 3)
      have hxw : w3.drew.cell? ⟨X, 0, none⟩ = some (.slice (some ⟨g, 0, none⟩) nC cC) := x0
      have q3d := q3.keep (Below.refl w3.heap.size w3).drew
      have hnp := new_row (W := w3.drew) HM.out
      have q5 := q3d.pages hlC htk bM hnp (by simp)
      have hXg : (⟨X, 0, none⟩ : Addr).block ≠ g := by show X ≠ g; omega
      have z5 := zM.other (B' := g) (by omega) (k * 3) (.slice (some ⟨w3.drew.heap.size, 0, none⟩) 8 8)
      have B5 : Below W0.heap.size W0 ((w3.drew.alloc (.cells M 55)).setCell ⟨g, k * 3, none⟩ (.slice (some ⟨w3.drew.heap.size, 0, none⟩) 8 8)) := ((B3.drew).trans (bM.mono B3.size)).setCell (p := ⟨g, k * 3, none⟩) hg0 _
      have HP5 : Hid _ := And.intro q5 (And.intro z5 B5)
      clear bM zM rowM q3d hnp q5 z5 B5
      refine wp_region_noPanic ?_
      refine wp_region_last (fun W : World => W.cell? ⟨X, 0, none⟩ = some (.slice (some ⟨g, 0, none⟩) nC cC)) 6 (by kernel_rfl) (by kernel_rfl) (by go_keep) 6 (by kernel_rfl) (fun hS => ?_)
      refine wpAnyH_take (i := 0) (v := ?gv1) rfl (by kernel_rfl) (by kernel_rfl) (by kernel_rfl) (fun _ _ _ h => h) (Or.inl ⟨by kernel_rfl, ?gy1⟩) (by assumption) ?gr1
      case gy1 => (intro w' hSw; (try dsimp only at hSw); go_simp; (try with_reducible rfl))
      try simp only [Act.put, List.setIfInBounds_toArray, List.set_cons_zero, List.set_cons_succ, List.getElem_toArray, List.getElem_cons_zero]
      refine wpAnyH_take (i := 1) (v := ?gv2) rfl (by kernel_rfl) (by kernel_rfl) (by kernel_rfl) (fun _ _ _ h => h) (Or.inl ⟨by kernel_rfl, ?gy2⟩) (by assumption) ?gr2
      case gy2 => (intro w' hSw; (try dsimp only at hSw); go_simp; (try with_reducible rfl))
      try simp only [Act.put, List.setIfInBounds_toArray, List.set_cons_zero, List.set_cons_succ, List.getElem_toArray, List.getElem_cons_succ, List.getElem_cons_zero]
      refine wpAnyH_take (i := 2) (v := ?gv3) rfl (by kernel_rfl) (by kernel_rfl) (by kernel_rfl) (fun _ _ _ h => h) (Or.inl ⟨by kernel_rfl, ?gy3⟩) (by assumption) ?gr3
      case gy3 => (intro w' hSw; (try dsimp only at hSw); go_simp; (try with_reducible rfl))
      try simp only [Act.put, List.setIfInBounds_toArray, List.set_cons_zero, List.set_cons_succ, List.getElem_toArray, List.getElem_cons_succ, List.getElem_cons_zero]
      refine wpAnyH_ready (rs := [3]) (by kernel_rfl) (by simp) ?_
      refine AllReadyH.cons rfl (fun K hK => ?_) AllReadyH.nil
      go_simp
      clear hS
      try dsimp only
      refine Shut.out hK _ _ (xM) (fun hS => ?_)
      try simp only [Act.put, List.setIfInBounds_toArray, List.set_cons_zero, List.set_cons_succ, List.getElem_toArray, List.getElem_cons_succ, List.getElem_cons_zero]
      refine wpAnyH_take (i := 4) (v := ?gv4) rfl (by kernel_rfl) (by kernel_rfl) (by kernel_rfl) (fun _ _ _ h => h) (Or.inl ⟨by kernel_rfl, ?gy4⟩) (by assumption) ?gr4
      case gy4 => (intro w' hSw; (try dsimp only at hSw); go_simp; (try with_reducible rfl))
      try simp only [Act.put, List.setIfInBounds_toArray, List.set_cons_zero, List.set_cons_succ, List.getElem_toArray, List.getElem_cons_succ, List.getElem_cons_zero]
      refine wpAnyH_take (i := 5) (v := ?gv5) rfl (by kernel_rfl) (by kernel_rfl) (by kernel_rfl) (fun _ _ _ h => h) (Or.inl ⟨by kernel_rfl, ?gy5⟩) (by assumption) ?gr5
      case gy5 => (intro w' hSw; (try dsimp only at hSw); go_simp; (try with_reducible rfl))
      try simp only [Act.put, List.setIfInBounds_toArray, List.set_cons_zero, List.set_cons_succ, List.getElem_toArray, List.getElem_cons_succ, List.getElem_cons_zero]
      refine wpAnyH_done (by kernel_rfl) ?_ _
      refine wpOp_last rfl (fun K hK => ?_)
      clear hS
      go_simp
      refine Shut.out hK _ _ (NoPanic.normal ?_)
      obtain ⟨q5, z5, B5⟩ := HP5.out
      have hcomm : (w3.drew.alloc (.cells M 55)).setCell ⟨g, k * 3, none⟩ (.slice (some ⟨w3.heap.size, 0, none⟩) 8 8) = ((w3.setCell ⟨g, k * 3, none⟩ (.slice (some ⟨w3.heap.size, 0, none⟩) 8 8)).alloc (.cells M 55)).drew := World.setCell_alloc_past (w := w3.drew) _ g (k * 3) _ hgl
      have q5' : NewBs ((w3.drew.alloc (.cells M 55)).setCell ⟨g, k * 3, none⟩ (.slice (some ⟨w3.heap.size, 0, none⟩) 8 8)) W0.heap.size (.slice (some ⟨g, 0, none⟩) nC cC) _ _ := q5
      have z5' : Blk ((w3.drew.alloc (.cells M 55)).setCell ⟨g, k * 3, none⟩ (.slice (some ⟨w3.heap.size, 0, none⟩) 8 8)) X 26 #[.slice (some ⟨g, 0, none⟩) nC cC] := z5
      have B5' : Below W0.heap.size W0 ((w3.drew.alloc (.cells M 55)).setCell ⟨g, k * 3, none⟩ (.slice (some ⟨w3.heap.size, 0, none⟩) 8 8)) := B5
      rw [hcomm] at q5' z5' B5'
      obtain ⟨W5, hW5⟩ : ∃ W, ((w3.setCell ⟨g, k * 3, none⟩ (.slice (some ⟨w3.heap.size, 0, none⟩) 8 8)).alloc (.cells M 55)).drew = W := ⟨_, rfl⟩
      rw [hW5] at q5' z5' B5' ⊢
      clear xM rc0 rf0 rc1 rf1 hxw x0 q3 z3 hrow HP5 hcomm q5 z5 B5 hW5 hmk B3
      have hk5 : (tC.set k ⟨some ⟨w3.drew.heap.size, 0, none⟩, 8, List.replicate 8 pgZ, t.wear, t.bad⟩)[k]? = some ⟨some ⟨w3.drew.heap.size, 0, none⟩, 8, List.replicate 8 pgZ, t.wear, t.bad⟩ := by rw [List.getElem?_set_self (List.getElem?_eq_some_iff.1 htk).1]
      have hl5 : (tC.set k ⟨some ⟨w3.drew.heap.size, 0, none⟩, 8, List.replicate 8 pgZ, t.wear, t.bad⟩).length = nC := by rw [List.length_set, hlC]
      have q6 := (NewBs.keep q5' (Below.refl _ _).drew).wear hl5 hk5 (wear + 1)
      have row5 := q5'.own.1
      rw [hl5] at row5
      have rc1 : W5.cell? ⟨g, k * 3 + 1, none⟩ = some (.int .i64 t.wear) := row5.cell k 1 (⟨some ⟨w3.drew.heap.size, 0, none⟩, 8, List.replicate 8 pgZ, t.wear, t.bad⟩ : BkR) hk5 (by decide)
      have rf1 : W5.frozen? ⟨g, k * 3 + 1, none⟩ = false := row5.frozen (k * 3 + 1)
      have x0 := z5'.cell 0
      simp at x0
      have hyH := (Blk.keep HZ0.out B5').cell 0
      simp at hyH
      have cw5 := (B5'.cell (p := ⟨b, off + k * 3 + 1, none⟩) hlt).trans cw
      have x0d : W5.drew.cell? ⟨X, 0, none⟩ = some (.slice (some ⟨g, 0, none⟩) nC cC) := x0
      have yHd : W5.drew.cell? ⟨H, 0, none⟩ = some (.slice (some ⟨b, off, none⟩) nC cap) := hyH
      have cwd : W5.drew.cell? ⟨b, off + k * 3 + 1, none⟩ = some (.int .i64 wear) := cw5
      have HL6 : Hid _ := q6
      have z6 := (Blk.keep z5' (Below.refl _ _).drew).other (B' := g) (by omega) (k * 3 + 1) (.int .i64 (wear + 1))
      have B6 : Below W0.heap.size W0 (W5.drew.setCell ⟨g, k * 3 + 1, none⟩ (.int .i64 (wear + 1))) := B5'.drew.setCell (p := ⟨g, k * 3 + 1, none⟩) hg0 _
      have HP6 : Hid (Blk (W5.drew.setCell ⟨g, k * 3 + 1, none⟩ (.int .i64 (wear + 1))) X 26 #[.slice (some ⟨g, 0, none⟩) nC cC] ∧ Below W0.heap.size W0 (W5.drew.setCell ⟨g, k * 3 + 1, none⟩ (.int .i64 (wear + 1)))) := ⟨z6, B6⟩
      clear q6 z6 B6 row5 q5' z5'
      have hwr : IntKind.i64.wrap (wear + 1) = wear + 1 := wrap_small _ (by omega) (by omega)
      go_upto_region 5 with fail
      refine wp_region_noPanic ?_
      refine wp_region_last (fun W : World => W.cell? ⟨X, 0, none⟩ = some (.slice (some ⟨g, 0, none⟩) nC cC) ∧ W.cell? ⟨H, 0, none⟩ = some (.slice (some ⟨b, off, none⟩) nC cap) ∧ W.cell? ⟨b, off + k * 3 + 1, none⟩ = some (.int .i64 wear)) 12 (by kernel_rfl) (by kernel_rfl) (by go_keep) 12 (by kernel_rfl) (fun hS => ?_)
      refine wpAnyH_take (i := 0) (v := ?gv6) rfl (by kernel_rfl) (by kernel_rfl) (by kernel_rfl) (fun _ _ _ h => h) (Or.inl ⟨by kernel_rfl, ?gy6⟩) (by assumption) ?gr6
      case gy6 => (intro w' hSw; (try dsimp only at hSw); go_simp; (try with_reducible rfl))
      try simp only [Act.put, List.setIfInBounds_toArray, List.set_cons_zero, List.set_cons_succ, List.getElem_toArray, List.getElem_cons_zero]
      refine wpAnyH_take (i := 1) (v := ?gv7) rfl (by kernel_rfl) (by kernel_rfl) (by kernel_rfl) (fun _ _ _ h => h) (Or.inl ⟨by kernel_rfl, ?gy7⟩) (by assumption) ?gr7
      case gy7 => (intro w' hSw; (try dsimp only at hSw); go_simp; (try with_reducible rfl))
      try simp only [Act.put, List.setIfInBounds_toArray, List.set_cons_zero, List.set_cons_succ, List.getElem_toArray, List.getElem_cons_succ, List.getElem_cons_zero]
      refine wpAnyH_take (i := 2) (v := ?gv8) rfl (by kernel_rfl) (by kernel_rfl) (by kernel_rfl) (fun _ _ _ h => h) (Or.inl ⟨by kernel_rfl, ?gy8⟩) (by assumption) ?gr8
      case gy8 => (intro w' hSw; (try dsimp only at hSw); go_simp; (try with_reducible rfl))
      try simp only [Act.put, List.setIfInBounds_toArray, List.set_cons_zero, List.set_cons_succ, List.getElem_toArray, List.getElem_cons_succ, List.getElem_cons_zero]
      refine wpAnyH_take (i := 3) (v := ?gv9) rfl (by kernel_rfl) (by kernel_rfl) (by kernel_rfl) (fun _ _ _ h => h) (Or.inl ⟨by kernel_rfl, ?gy9⟩) (by assumption) ?gr9
      case gy9 => (intro w' hSw; (try dsimp only at hSw); go_simp; (try with_reducible rfl))
      try simp only [Act.put, List.setIfInBounds_toArray, List.set_cons_zero, List.set_cons_succ, List.getElem_toArray, List.getElem_cons_succ, List.getElem_cons_zero]
      refine wpAnyH_take (i := 4) (v := ?gv10) rfl (by kernel_rfl) (by kernel_rfl) (by kernel_rfl) (fun _ _ _ h => h) (Or.inl ⟨by kernel_rfl, ?gy10⟩) (by assumption) ?gr10
      case gy10 => (intro w' hSw; (try dsimp only at hSw); go_simp; (try with_reducible rfl))
      try simp only [Act.put, List.setIfInBounds_toArray, List.set_cons_zero, List.set_cons_succ, List.getElem_toArray, List.getElem_cons_succ, List.getElem_cons_zero]
      refine wpAnyH_take (i := 5) (v := ?gv11) rfl (by kernel_rfl) (by kernel_rfl) (by kernel_rfl) (fun _ _ _ h => h) (Or.inl ⟨by kernel_rfl, ?gy11⟩) (by assumption) ?gr11
      case gy11 => (intro w' hSw; (try dsimp only at hSw); go_simp; (try with_reducible rfl))
      try simp only [Act.put, List.setIfInBounds_toArray, List.set_cons_zero, List.set_cons_succ, List.getElem_toArray, List.getElem_cons_succ, List.getElem_cons_zero]
      refine wpAnyH_take (i := 6) (v := ?gv12) rfl (by kernel_rfl) (by kernel_rfl) (by kernel_rfl) (fun _ _ _ h => h) (Or.inl ⟨by kernel_rfl, ?gy12⟩) (by assumption) ?gr12
      case gy12 => (intro w' hSw; (try dsimp only at hSw); go_simp; (try with_reducible rfl))
      try simp only [Act.put, List.setIfInBounds_toArray, List.set_cons_zero, List.set_cons_succ, List.getElem_toArray, List.getElem_cons_succ, List.getElem_cons_zero]
      refine wpAnyH_take (i := 7) (v := ?gv13) rfl (by kernel_rfl) (by kernel_rfl) (by kernel_rfl) (fun _ _ _ h => h) (Or.inl ⟨by kernel_rfl, ?gy13⟩) (by assumption) ?gr13
      case gy13 => (intro w' hSw; (try dsimp only at hSw); go_simp; (try with_reducible rfl))
      try simp only [Act.put, List.setIfInBounds_toArray, List.set_cons_zero, List.set_cons_succ, List.getElem_toArray, List.getElem_cons_succ, List.getElem_cons_zero]
      refine wpAnyH_take (i := 8) (v := ?gv14) rfl (by kernel_rfl) (by kernel_rfl) (by kernel_rfl) (fun _ _ _ h => h) (Or.inl ⟨by kernel_rfl, ?gy14⟩) (by assumption) ?gr14
      case gy14 => (intro w' hSw; (try dsimp only at hSw); go_simp; (try with_reducible rfl))
      try simp only [Act.put, List.setIfInBounds_toArray, List.set_cons_zero, List.set_cons_succ, List.getElem_toArray, List.getElem_cons_succ, List.getElem_cons_zero]
      refine wpAnyH_take (i := 9) (v := ?gv15) rfl (by kernel_rfl) (by kernel_rfl) (by kernel_rfl) (fun _ _ _ h => h) (Or.inl ⟨by kernel_rfl, ?gy15⟩) (by assumption) ?gr15
      case gy15 => (intro w' hSw; (try dsimp only at hSw); go_simp; (try with_reducible rfl))
      try simp only [Act.put, List.setIfInBounds_toArray, List.set_cons_zero, List.set_cons_succ, List.getElem_toArray, List.getElem_cons_succ, List.getElem_cons_zero]
      refine wpAnyH_take (i := 10) (v := ?gv16) rfl (by kernel_rfl) (by kernel_rfl) (by kernel_rfl) (fun _ _ _ h => h) (Or.inl ⟨by kernel_rfl, ?gy16⟩) (by assumption) ?gr16
      case gy16 => (intro w' hSw; (try dsimp only at hSw); go_simp; (try with_reducible rfl))
      try simp only [Act.put, List.setIfInBounds_toArray, List.set_cons_zero, List.set_cons_succ, List.getElem_toArray, List.getElem_cons_succ, List.getElem_cons_zero]
      refine wpAnyH_take (i := 11) (v := ?gv17) rfl (by kernel_rfl) (by kernel_rfl) (by kernel_rfl) (fun _ _ _ h => h) (Or.inl ⟨by kernel_rfl, ?gy17⟩) (by assumption) ?gr17
      case gy17 => (intro w' hSw; (try dsimp only at hSw); go_simp; (try with_reducible rfl))
      try simp only [Act.put, List.setIfInBounds_toArray, List.set_cons_zero, List.set_cons_succ, List.getElem_toArray, List.getElem_cons_succ, List.getElem_cons_zero]
      refine wpAnyH_done (by kernel_rfl) ?_ _
      refine wpOp_last rfl (fun K hK => ?_)
      clear hS
      go_simp
      refine Shut.out hK _ _ (NoPanic.normal ?_)
      clear rc1 rf1 x0 hyH cw5 x0d yHd cwd
      have q6' : NewBs ((W5.setCell ⟨g, k * 3 + 1, none⟩ (.int .i64 (wear + 1))).drew) W0.heap.size (.slice (some ⟨g, 0, none⟩) nC cC) _ _ := HL6.out
      have z6' : Blk ((W5.setCell ⟨g, k * 3 + 1, none⟩ (.int .i64 (wear + 1))).drew) X 26 #[.slice (some ⟨g, 0, none⟩) nC cC] := HP6.out.1
      have B6' : Below W0.heap.size W0 ((W5.setCell ⟨g, k * 3 + 1, none⟩ (.int .i64 (wear + 1))).drew) := HP6.out.2
      clear HL6 HP6
      obtain ⟨W6, hW6⟩ : ∃ W, (W5.setCell ⟨g, k * 3 + 1, none⟩ (.int .i64 (wear + 1))).drew = W := ⟨_, rfl⟩
      rw [hW6] at q6' z6' B6' ⊢
      clear hW6 hwr
      have x0 := z6'.cell 0
      have zr := Blk.keep HZ1.out B6'
      have r0 := zr.cell 0
      have f0 := zr.frozen 0
      have zf := zr.set 0 (.slice (some ⟨g, 0, none⟩) nC cC)
      have d0 := zf.cell 0
      simp at x0 r0 d0
      have HQ : Hid _ := q6'
      have HB6 : Hid (Below W0.heap.size W0 W6) := B6'
      have HLL : Hid (tC.length = nC) := hlC
      have HRR : Hid (bs[k]? = some r ∧ r.bad = t.bad ∧ r.wear = wear ∧ tC.map BkR.D = bs.map BkR.D) := by
        refine ⟨hrk, hD.2.symm, hwe, ?_⟩
        exact HDC.out
      clear q6' z6' B6' zr zf hlC hrk hwe hD hrt htk hk5 hl5 x3 hrk' hlt cw B5'
      go_wp2
      refine bodyPost_ret (v := .tuple #[.agg #[.slice (some ⟨g, 0, none⟩) nC cC], .int .i64 0]) (by simp [results, Tryd.f8, go_sem, d0]) rfl ?_
      have hw := HW.out
      have hH := HH.out
      have hbs := HB0.out
      have hb3 := HB6.out
      obtain ⟨e1, e2, e3, e4⟩ := HRR.out
      have hfin : eraseD ok (bs.map BkR.D) (k : Int) = (((bs.map BkR.D).set k ⟨List.replicate 8 ⟨false, []⟩, t.wear, t.bad⟩).set k ⟨(List.replicate 8 pgZ).map PgR.D, wear + 1, t.bad⟩) := by
        rw [HD.out, if_pos trivial, set_set_at]
        unfold eraseAt
        simp only [Int.toNat_natCast, List.getElem?_map, e1, Option.map_some]
        rw [← e2, ← e3]
        rfl
      rw [hfin, HCE.out]
      have bel : Below w.heap.size w W6 := by rw [hH]; exact hbs.trans (hb3.mono (by omega))
      exact ⟨some ⟨g, 0, none⟩, nC, cC, _, rfl, NewBs.wider (B := W0.heap.size) (NewBs.set_below (B := W0.heap.size) (j := H + 1) HQ.out (by omega)) (by omega), by rw [List.length_set, List.length_set]; exact HLL.out, bel.setCell (p := ⟨H + 1, 0, none⟩) (by simp only; omega) _⟩
  · have hcb : (code == 0) = false := by simp [hc0]
    have x0 := z3.cell 0
    have zr := Blk.keep HZ1.out B3
    have r0 := zr.cell 0
    have f0 := zr.frozen 0
    have zf := zr.set 0 (.slice aC nC cC)
    have d0 := zf.cell 0
    simp at x0 r0 d0
    have HQ : Hid _ := q3
    have HB3 : Hid (Below W0.heap.size W0 w3) := B3
    have HL : Hid (tC.length = nC) := hlC
    have HC0 : Hid (¬ code = 0) := hc0
    clear q3 z3 B3 zr zf hlC hc0
    go_wp2
    refine bodyPost_ret (v := .tuple #[.agg #[.slice aC nC cC], .int .i64 code]) (by simp [results, Tryd.f8, go_sem, d0]) rfl ?_
    have hw := HW.out
    have hH := HH.out
    have hbs := HB0.out
    have hb3 := HB3.out
    rw [HD.out, if_neg HC0.out, HCE.out]
    have bel : Below w.heap.size w w3 := by rw [hH]; exact hbs.trans (hb3.mono (by omega))
    exact ⟨aC, nC, cC, tC, rfl, NewBs.wider (B := W0.heap.size) (NewBs.set_below (B := W0.heap.size) (j := H + 1) HQ.out (by omega)) (by omega), HL.out, bel.setCell (p := ⟨H + 1, 0, none⟩) (by simp only; omega) _⟩
end

section
open Go.RowKit
theorem flOf_ex : ∀ (bs : List BkR), (∀ b ∈ bs, b.ps.length = 8) → ∃ fs, FlOf bs fs
  | [], _ => ⟨[], rfl, fun i r h => by simp at h⟩
  | b :: bs, h => by
    obtain ⟨fs, h1, h2⟩ := flOf_ex bs (fun b hb => h b (List.mem_cons_of_mem _ hb))
    refine ⟨⟨b.ps, b.wear, b.bad, h b List.mem_cons_self⟩ :: fs, by simp [h1], fun i r hi => ?_⟩
    cases i with
    | zero => simp at hi; subst hi; exact ⟨_, rfl, rfl, rfl, rfl⟩
    | succ i => simp at hi; obtain ⟨f, hf⟩ := h2 i r hi; exact ⟨f, by simpa using hf.1, hf.2⟩
theorem FlOf.at {bs : List BkR} {fs : List FkR} (h : FlOf bs fs) {i : Nat} {f : FkR} (hf : fs[i]? = some f) : ∃ r, bs[i]? = some r ∧ f.ps = r.ps ∧ f.wear = r.wear ∧ f.bad = r.bad := by
  have hi := (List.getElem?_eq_some_iff.1 hf).1
  obtain ⟨r, hr⟩ : ∃ r, bs[i]? = some r := ⟨_, List.getElem?_eq_getElem (by have := h.1; omega)⟩
  obtain ⟨f', h1, h2⟩ := h.2 i _ hr
  rw [hf] at h1
  cases h1
  exact ⟨_, hr, h2⟩
theorem FlOf.D {bs : List BkR} {fs : List FkR} (h : FlOf bs fs) : fs.map FkR.D = bs.map BkR.D := by
  refine List.ext_getElem? fun i => ?_
  rw [List.getElem?_map, List.getElem?_map]
  cases hr : bs[i]? with
  | none => rw [List.getElem?_eq_none (by have := h.1; have := List.getElem?_eq_none_iff.1 hr; omega)]; rfl
  | some r =>
    obtain ⟨f, h1, h2, h3, h4⟩ := h.2 i r hr
    rw [h1]
    simp only [Option.map_some, FkR.D, BkR.D, h2, h3, h4]
/-- A right chip's blocks have eight pages each, and a wear within its limits. -/
theorem ok_flash {bs : List BkR} (h : chipOkB (bs.map BkR.D) = true) : ∃ fs, FlOf bs fs ∧ ∀ f ∈ fs, 0 ≤ f.wear ∧ f.wear ≤ 100000 := by
  rw [chipOkB_iff] at h
  obtain ⟨fs, hf⟩ := flOf_ex bs (fun b hb => by
    have := (h.2.2 b.D (List.mem_map_of_mem hb)).1
    simpa [BkR.D] using this)
  refine ⟨fs, hf, fun f hfm => ?_⟩
  obtain ⟨i, hi⟩ := List.mem_iff_getElem?.1 hfm
  obtain ⟨r, hr, _, h2, _⟩ := hf.at hi
  have h3 := h.2.2 r.D (List.mem_map_of_mem (List.mem_of_getElem? hr))
  rw [h2]
  exact ⟨h3.2.1, h3.2.2.1⟩
theorem totB_set : ∀ (ds : List BkD) (k : Nat) (b b' : BkD), ds[k]? = some b → totP b'.ps ≤ totP b.ps → totB (ds.set k b') ≤ totB ds
  | [], _, _, _, h, _ => by simp at h
  | d :: ds, 0, b, b', h, hp => by simp at h; subst h; rw [List.set_cons_zero, totB_cons, totB_cons]; omega
  | d :: ds, k + 1, b, b', h, hp => by
    have := totB_set ds k b b' (by simpa using h) hp
    rw [List.set_cons_succ, totB_cons, totB_cons]
    omega
/-- The flash's code and the flash behind an erase are the chip's. -/
theorem er_code {bs : List BkR} {fs : List FkR} (h : FlOf bs fs) (hw : ∀ f ∈ fs, 0 ≤ f.wear ∧ f.wear ≤ 100000) (x : Int) : erC fs x = codeE true (bs.map BkR.D) x := by
  by_cases hx : 0 ≤ x ∧ x < (bs.length : Int)
  · obtain ⟨k, rfl⟩ : ∃ k : Nat, x = (k : Int) := ⟨x.toNat, by omega⟩
    obtain ⟨r, hr⟩ : ∃ r, bs[k]? = some r := ⟨_, List.getElem?_eq_getElem (by omega)⟩
    obtain ⟨f, hf, _, h2, h3⟩ := h.2 k _ hr
    have h4 := hw f (List.mem_of_getElem? hf)
    unfold codeE
    rw [mayD_in hr, wornAt_in hr]
    unfold erC
    rw [btcC_in hf, ← h3, ← h2]
    cases f.bad with
    | true => simp
    | false =>
      simp only [Int.toNat_natCast, hf, Option.map_some, Option.some.injEq]
      by_cases h5 : f.wear = 100000
      · simp [h5]
      · have : ¬ (100000 : Int) ≤ f.wear := by omega
        simp [h5, this]
  · have h1 := h.1
    have hb : btcC fs x = 1 := by unfold btcC; rw [if_pos (by omega)]
    unfold erC codeE
    rw [hb, mayD_form (.inr (by simp; omega))]
    rfl
theorem er_chip {bs : List BkR} {fs : List FkR} (h : FlOf bs fs) (hw : ∀ f ∈ fs, 0 ≤ f.wear ∧ f.wear ≤ 100000) (x : Int) : (erF fs x).map FkR.D = eraseD true (bs.map BkR.D) x := by
  unfold erF eraseD
  rw [er_code h hw x]
  split
  · rename_i hc
    obtain ⟨_, k, r, rfl, hr, _⟩ := code_zero (bs := bs) hc
    obtain ⟨f, hf, _, h2, h3⟩ := h.2 k r hr
    unfold erAt eraseAt
    rw [Int.toNat_natCast, hf, List.getElem?_map, hr]
    simp only [Option.map_some]
    rw [List.map_set, h.D]
    simp only [FkR.D, BkR.D, h2, h3]
    rfl
  · exact h.D
theorem er_tot {bs : List BkR} {fs : List FkR} (h : FlOf bs fs) (x : Int) (ht : totB (bs.map BkR.D) ≤ 1048576) : totB ((erF fs x).map FkR.D) ≤ 1048576 := by
  unfold erF
  split
  · unfold erAt
    split
    · rename_i f hf
      rw [List.map_set, h.D]
      refine Nat.le_trans (totB_set _ _ f.D _ ?_ ?_) ht
      · rw [← h.D, List.getElem?_map, hf]; rfl
      · have := totP_len f.D.ps
        have h8 : f.D.ps.length = 8 := by simp [FkR.D, f.h8]
        show totP ((List.replicate 8 pgZ).map PgR.D) ≤ _
        have : totP ((List.replicate 8 pgZ).map PgR.D) = 8 := rfl
        omega
    · rw [h.D]; exact ht
  · rw [h.D]; exact ht
theorem er_len {fs : List FkR} {x : Int} : (erF fs x).length = fs.length := by
  unfold erF
  split
  · unfold erAt; split <;> simp
  · rfl
theorem er_rd {w : World} {a : Option Addr} {n : Nat} {bs : List BkR} {fs : List FkR} (ht : CR w a n bs) (h : FlOf bs fs) (x : Int) : ∀ f ∈ erF fs x, ∀ p ∈ f.ps, Rd w p.a p.zs := by
  have h0 : ∀ f ∈ fs, ∀ p ∈ f.ps, Rd w p.a p.zs := fun f hf p hp => by
    obtain ⟨i, hi⟩ := List.mem_iff_getElem?.1 hf
    obtain ⟨r, hr, h1, _, _⟩ := h.at hi
    rw [h1] at hp
    exact RdE.each (RdE.each ht.rd r (List.mem_of_getElem? hr)) p hp
  intro f hf p hp
  unfold erF at hf
  split at hf
  · unfold erAt at hf
    split at hf
    · rcases List.mem_or_eq_of_mem_set hf with h1 | h1
      · exact h0 f h1 p hp
      · subst h1
        have : p ∈ List.replicate 8 pgZ := hp
        rw [List.mem_replicate] at this
        rw [this.2]
        exact .inl rfl
    · exact h0 f hf p hp
  · exact h0 f hf p hp
set_option maxRecDepth 100000 in
set_option maxHeartbeats 4000000 in
theorem erase1I (F G n K : Nat) (fs : List FkR) (x : Int) (w0 w : World) (hn : n ≤ 1048576) (h : FO w0 w F G n fs) (hw : ∀ f ∈ fs, 0 ≤ f.wear ∧ f.wear ≤ 100000) (hK : Blk w K 3 #[.int .i64 x]) :
    Calls Tryd.prog 22 #[.pointer (some ⟨F, 0, none⟩), .pointer (some ⟨K, 0, none⟩)] w (ErA w0 F G n fs x) := by
  have hcall := eraseF F G n fs x w0 w hn h hw
  have x0 := hK.cell 0
  simp at x0
  generalize hGP : ErA w0 F G n fs x = P
  have HGP : Hid _ := hGP
  clear hGP h hw hK
  go_enter Tryd.func22, Tryd.ntmps22
  go_wp2_with fail
  refine hcall.mono ?_
  rintro e w1 ⟨rfl, h1⟩
  go_wp2
  rw [← HGP.out]
  exact ⟨rfl, h1⟩
set_option maxRecDepth 100000 in
set_option maxHeartbeats 8000000 in
theorem behindI (a : Option Addr) (n cap K : Nat) (bs : List BkR) (x : Int) (w : World) (ht : CR w a n bs) (hK : Blk w K 3 #[.int .i64 x]) (hE : EtCell w) :
    Calls Tryd.prog 21 #[.agg #[.slice a n cap], .func (.func 22) #[] #[.pointer (some ⟨K, 0, none⟩)]] w (ChCA w (eraseD (chipOkB (bs.map BkR.D)) (bs.map BkR.D) x) (codeE (chipOkB (bs.map BkR.D)) (bs.map BkR.D) x)) := by
  have hnn := ht.n
  have B0 : Below w.heap.size w ((w.alloc (.cells #[.slice a n cap] 26)).alloc (.cells #[.slice none 0 0] 26)) := ((Below.refl _ w).alloc (Nat.le_refl _) _).alloc (by simp) _
  have z0 := (Blk.new w 26 #[.slice a n cap]).alloc (.cells #[.slice none 0 0] 26)
  have z1 := Blk.new (w.alloc (.cells #[.slice a n cap] 26)) 26 #[.slice none 0 0]
  simp only [World.size_alloc] at z1
  have hws : ((w.alloc (.cells #[.slice a n cap] 26)).alloc (.cells #[.slice none 0 0] 26)).heap.size = w.heap.size + 2 := by simp
  obtain ⟨H, hH⟩ : ∃ H, w.heap.size = H := ⟨_, rfl⟩
  rw [hH] at z0 z1 hws
  obtain ⟨ok, hok⟩ : ∃ ok, chipOkB (bs.map BkR.D) = ok := ⟨_, rfl⟩
  have cOk := fun (W : World) (h : CR W a n bs) => chipOkI a n cap bs W h
  rw [hok] at cOk ⊢
  generalize hGP : ChCA w (eraseD ok (bs.map BkR.D) x) (codeE ok (bs.map BkR.D) x) = P
  have HGP : Hid _ := hGP
  clear hGP
  have COK : Hid _ := cOk
  have HOK : Hid (chipOkB (bs.map BkR.D) = ok) := hok
  clear cOk hok
  go_enter Tryd.func21, Tryd.ntmps21
  have x00 := z0.cell 0
  simp at x00
  go_upto_region 1 with fail
  obtain ⟨W0, hW0⟩ : ∃ W, (w.alloc (.cells #[.slice a n cap] 26)).alloc (.cells #[.slice none 0 0] 26) = W := ⟨_, rfl⟩
  rw [hW0] at B0 z0 z1 hws x00 ⊢
  clear hW0
  have HW : Hid _ := hws
  have HH : Hid (w.heap.size = H) := hH
  have HT : Hid (CR W0 a n bs) := ht.keep B0
  have HB0 : Hid (Below H w W0) := by rw [← hH]; exact B0
  have HZ0 : Hid (Blk W0 H 26 #[.slice a n cap]) := z0
  have HZ1 : Hid (Blk W0 (H + 1) 26 #[.slice none 0 0]) := z1
  have HK : Hid (Blk W0 K 3 #[.int .i64 x]) := hK.keep B0
  have HE : Hid (EtCell W0) := hE.keep B0
  have hln : Hid (bs.length = n) := ht.len
  clear ht B0 z0 z1 hH hK hE
  go_wp2_with fail
  refine (COK.out W0 HT.out).mono ?_
  rintro e w1 ⟨rfl, b1⟩
  have y0 := (Blk.keep HZ0.out b1).cell 0
  simp at y0
  clear x00
  cases ok with
  | false =>
    go_wp2_with fail
    refine (copyChI a n cap bs w1 (HT.out.keep b1)).mono ?_
    rintro e w2 ⟨aC, nC, cC, tC, rfl, qC, hlC, b2⟩
    have B2 : Below W0.heap.size W0 w2 := b1.trans (b2.mono b1.size)
    have zr := Blk.keep HZ1.out B2
    have r0 := zr.cell 0
    have f0 := zr.frozen 0
    have zf := zr.set 0 (.slice aC nC cC)
    have d0 := zf.cell 0
    simp at r0 d0
    have HQ : Hid _ := qC
    have HB2 : Hid (Below W0.heap.size W0 w2) := B2
    have HB1 : Hid (W0.heap.size ≤ w1.heap.size) := b1.size
    have HL : Hid (tC.length = nC) := hlC
    clear qC b1 b2 B2 zr zf hlC y0
    go_wp2
    refine bodyPost_ret (v := .tuple #[.agg #[.slice aC nC cC], .int .i64 1]) (by simp [results, Tryd.f21, go_sem, d0]) rfl ?_
    rw [← HGP.out]
    have hc : codeE false (bs.map BkR.D) x = 1 := mayD_form (.inl rfl)
    have hw := HW.out
    have hH := HH.out
    have hbs := HB0.out
    have hb3 := HB2.out
    have hb1 := HB1.out
    have bel : Below w.heap.size w w2 := by rw [hH]; exact hbs.trans (hb3.mono (by omega))
    rw [hc, show eraseD false (bs.map BkR.D) x = bs.map BkR.D by unfold eraseD; rw [hc]; rfl]
    exact ⟨aC, nC, cC, tC, rfl, NewBs.wider (B := w1.heap.size) (NewBs.set_below (B := w1.heap.size) (j := H + 1) HQ.out (by omega)) (by omega), HL.out, bel.setCell (p := ⟨H + 1, 0, none⟩) (by simp only; omega) _⟩
  | true =>
    obtain ⟨fs, hfl, hfw⟩ := ok_flash HOK.out
    have hfn : fs.length = n := by rw [hfl.1, hln.out]
    go_wp2_with fail
    refine (flashOfI a n cap bs fs w1 (HT.out.keep b1) hfl).mono ?_
    rintro e w2 ⟨F, G, rfl, fo2⟩
    rw [hfn] at fo2
    have b2 := fo2.bel
    have hK2 := (Blk.keep HK.out b1).keep b2
    clear y0
    go_wp2_with fail
    refine (erase1I F G n K fs x w1 w2 hnn fo2 hfw hK2).mono ?_
    rintro e w3 ⟨rfl, fo3⟩
    have b3 := fo3.bel
    have B3 : Below W0.heap.size W0 w3 := b1.trans (b3.mono b1.size)
    have hrf : RdFs w3 (some ⟨G, 0, none⟩) (erF fs x) := by
      obtain ⟨a', c', e', r'⟩ := OwnE.rd (rd := fun f : FkR => ∀ p ∈ f.ps, Rd w3 p.a p.zs) fo3.g (er_rd (HT.out.keep B3) hfl x)
      simp only [Value.slice.injEq] at e'
      rw [e'.1]
      exact r'
    have hho := handedI F (some ⟨G, 0, none⟩) n n (erF fs x) w3 (by rw [er_len, hfn]) (er_tot hfl x HT.out.tot) fo3.f hrf
    rw [er_chip hfl hfw x] at hho
    rw [er_code hfl hfw x]
    clear hK2 fo2 b2 hrf fo3
    go_wp2_with fail
    refine hho.mono ?_
    rintro e w4 ⟨aC, nC, cC, tC, rfl, qC, hlC, b4⟩
    have B4 : Below W0.heap.size W0 w4 := B3.trans (b4.mono B3.size)
    clear hho
    obtain ⟨c, hc⟩ : ∃ c, codeE true (bs.map BkR.D) x = c := ⟨_, rfl⟩
    rw [hc]
    go_wp2_with fail
    refine (codeOfI c w4 (HE.out.keep B4)).mono ?_
    rintro e w5 ⟨rfl, b5⟩
    have B5 : Below W0.heap.size W0 w5 := B4.trans (b5.mono B4.size)
    have zr := Blk.keep HZ1.out B5
    have r0 := zr.cell 0
    have f0 := zr.frozen 0
    have zf := zr.set 0 (.slice aC nC cC)
    have d0 := zf.cell 0
    simp at r0 d0
    have HQ : Hid (NewBs w5 w3.heap.size (.slice aC nC cC) (eraseD true (bs.map BkR.D) x) tC) := qC.keep b5
    have HB5 : Hid (Below W0.heap.size W0 w5) := B5
    have HB3 : Hid (W0.heap.size ≤ w3.heap.size) := B3.size
    have HL : Hid (tC.length = nC) := hlC
    have HC : Hid _ := hc
    clear qC b1 b3 b4 b5 B3 B4 B5 zr zf hlC hc hfl hfw hfn
    go_wp2
    refine bodyPost_ret (v := .tuple #[.agg #[.slice aC nC cC], .int .i64 c]) (by simp [results, Tryd.f21, go_sem, d0]) rfl ?_
    rw [← HGP.out, HC.out]
    have hw := HW.out
    have hH := HH.out
    have hbs := HB0.out
    have hb3 := HB5.out
    have hb1 := HB3.out
    have bel : Below w.heap.size w w5 := by rw [hH]; exact hbs.trans (hb3.mono (by omega))
    exact ⟨aC, nC, cC, tC, rfl, NewBs.wider (B := w3.heap.size) (NewBs.set_below (B := w3.heap.size) (j := H + 1) HQ.out (by omega)) (by omega), HL.out, bel.setCell (p := ⟨H + 1, 0, none⟩) (by simp only; omega) _⟩
set_option maxRecDepth 100000 in
set_option maxHeartbeats 4000000 in
theorem eraseI (a : Option Addr) (n cap : Nat) (bs : List BkR) (x : Int) (w : World) (ht : CR w a n bs) (hE : EtCell w) :
    Calls Tryd.prog 7 #[.agg #[.slice a n cap], .int .i64 x] w (ChCA w (eraseD (chipOkB (bs.map BkR.D)) (bs.map BkR.D) x) (codeE (chipOkB (bs.map BkR.D)) (bs.map BkR.D) x)) := by
  have B0 : Below w.heap.size w (((w.alloc (.cells #[.slice a n cap] 26)).alloc (.cells #[.int .i64 x] 3)).alloc (.cells #[.slice none 0 0] 26)) := (((Below.refl _ w).alloc (Nat.le_refl _) _).alloc (by simp) _).alloc (by simp; omega) _
  have z0 := ((Blk.new w 26 #[.slice a n cap]).alloc (.cells #[.int .i64 x] 3)).alloc (.cells #[.slice none 0 0] 26)
  have zK := (Blk.new (w.alloc (.cells #[.slice a n cap] 26)) 3 #[.int .i64 x]).alloc (.cells #[.slice none 0 0] 26)
  have z1 := Blk.new ((w.alloc (.cells #[.slice a n cap] 26)).alloc (.cells #[.int .i64 x] 3)) 26 #[.slice none 0 0]
  simp only [World.size_alloc] at z1 zK
  have hcall := behindI a n cap (w.heap.size + 1) bs x _ (ht.keep B0) zK (hE.keep B0)
  obtain ⟨D, hD⟩ : ∃ D, eraseD (chipOkB (bs.map BkR.D)) (bs.map BkR.D) x = D := ⟨_, rfl⟩
  obtain ⟨c, hc⟩ : ∃ c, codeE (chipOkB (bs.map BkR.D)) (bs.map BkR.D) x = c := ⟨_, rfl⟩
  rw [hD, hc] at hcall ⊢
  generalize hGP : ChCA w D c = P
  have HGP : Hid _ := hGP
  clear hGP hD hc ht hE zK
  have x0 := z0.cell 0
  simp at x0
  obtain ⟨H, hH⟩ : ∃ H, w.heap.size = H := ⟨_, rfl⟩
  have HH : Hid (w.heap.size = H) := hH
  rw [hH] at hcall
  go_enter Tryd.func7, Tryd.ntmps7
  go_upto_region 1 with fail
  try rw [hH]
  obtain ⟨W0, hW0⟩ : ∃ W, ((w.alloc (.cells #[.slice a n cap] 26)).alloc (.cells #[.int .i64 x] 3)).alloc (.cells #[.slice none 0 0] 26) = W := ⟨_, rfl⟩
  have hws : W0.heap.size = w.heap.size + 3 := by rw [← hW0]; simp
  rw [hW0] at B0 z0 z1 x0 hcall ⊢
  clear hW0
  have HW : Hid _ := hws
  have HB0 : Hid _ := B0
  have HZ1 : Hid (Blk W0 (H + 2) 26 #[.slice none 0 0]) := by rw [← hH]; exact z1
  rw [hH] at z0 x0
  clear B0 z1 hH hws
  go_wp2_with fail
  refine hcall.mono ?_
  rintro e w1 ⟨aC, nC, cC, tC, rfl, qC, hlC, b1⟩
  have zr := Blk.keep HZ1.out b1
  have r0 := zr.cell 0
  have f0 := zr.frozen 0
  have zf := zr.set 0 (.slice aC nC cC)
  have d0 := zf.cell 0
  simp at r0 d0
  have HQ : Hid _ := qC
  have HB1 : Hid (Below W0.heap.size W0 w1) := b1
  have HL : Hid (tC.length = nC) := hlC
  clear qC b1 zr zf hlC x0 z0 hcall
  go_wp2
  refine bodyPost_ret (v := .tuple #[.agg #[.slice aC nC cC], .int .i64 c]) (by simp [results, Tryd.f7, go_sem, d0]) rfl ?_
  rw [← HGP.out]
  have hw := HW.out
  have hH := HH.out
  have hbs := HB0.out
  have hb3 := HB1.out
  have bel : Below w.heap.size w w1 := hbs.trans (hb3.mono (by omega))
  exact ⟨aC, nC, cC, tC, rfl, NewBs.wider (B := W0.heap.size) (NewBs.set_below (B := W0.heap.size) (j := H + 2) HQ.out (by omega)) (by omega), HL.out, bel.setCell (p := ⟨H + 2, 0, none⟩) (by simp only; omega) _⟩
end
end Go.Proofs.YtcohppfocfepdaaDoor
