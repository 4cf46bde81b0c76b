/-
  Joined: ToCh, ChSp, ChEr, DrK, DvE, DvL, DvS, DvSE, Any3, LdK, LdB, DrCh, LdE, RegV, DrAn, DrAy, DrCb, LdY, LdF, LdS, LdT.
-/
import Derived.Test.YtoeeblmnogeonaaGreatDoorJ31T
namespace Go.Proofs.YtoeeblmnogeonaaGreatDoor
section
open Go.RowKit
theorem set_set_at {α : Type} (l : List α) (i : Nat) (x y : α) : (l.set i x).set i y = l.set i y := by simp
end

section
open Go.RowKit
/-- The code of an erase. -/
def wornAt (ds : List BkD) (x : Int) : Bool := decide (0 ≤ x) && ((ds[x.toNat]?).map fun b => decide (100000 ≤ b.wear)).getD false
theorem wornAt_in {bs : List BkR} {k : Nat} {r : BkR} (h : bs[k]? = some r) : wornAt (bs.map BkR.D) (k : Int) = decide (100000 ≤ r.wear) := by simp [wornAt, h, BkR.D]
theorem wornAt_out {ds : List BkD} {x : Int} (h : ¬ (0 ≤ x ∧ x < (ds.length : Int))) : wornAt ds x = false := by
  unfold wornAt
  by_cases h1 : 0 ≤ x
  · rw [List.getElem?_eq_none (by omega)]; simp
  · simp [h1]
set_option maxRecDepth 100000 in
set_option maxHeartbeats 4000000 in
theorem l10EraseS (a : Option Addr) (n cap : Nat) (bs : List BkR) (x : Int) (w : World) (ht : CR w a n bs) :
    Calls Tryz.prog 61 #[.agg #[.slice a n cap], .int .i64 x] w fun e w' => e = .returned (.int .i64 (mayD (chipOkB (bs.map BkR.D)) (bs.map BkR.D) x (wornAt (bs.map BkR.D) x))) ∧ Below w.heap.size w w' := by
  have B0 : Below w.heap.size w (w.alloc (.cells #[.slice a n cap] 26)) := (Below.refl _ w).alloc (Nat.le_refl _) _
  have hnn := ht.n
  have hcall := fun full => mayS a n cap bs x full (w.alloc (.cells #[.slice a n cap] 26)) (ht.keep B0)
  have HB : Hid _ := B0
  generalize chipOkB (bs.map BkR.D) = ok at hcall
  by_cases hx : 0 ≤ x ∧ x < (n : Int)
  · obtain ⟨k, rfl⟩ : ∃ k : Nat, x = (k : Int) := ⟨x.toNat, by omega⟩
    have hkn : k < n := by omega
    have hki : (k : Int) < (n : Int) := by omega
    have hk0 : (0 : Int) ≤ (k : Int) := by omega
    obtain ⟨b, off, r, rfl, hlt, hrk, x3, _, _⟩ := (ht.keep B0).some hkn
    rw [wornAt_in hrk]
    have c1 := x3.c1
    obtain ⟨wear, hwe⟩ : ∃ wear, r.wear = wear := ⟨_, rfl⟩
    rw [hwe] at c1 ⊢
    by_cases hf : 100000 ≤ wear
    · have hd : decide (100000 ≤ wear) = true := by simp [hf]
      rw [hd]
      have hc := hcall true
      clear hcall ht B0 hrk x3 hwe hx hd
      go_enter Tryz.func61, Tryz.ntmps61
      go_wp2_with fail
      refine hc.mono ?_
      rintro e w1 ⟨rfl, b1⟩
      clear hc
      go_wp2
      go_ret
      exact ⟨rfl, HB.out.trans (b1.mono HB.out.size)⟩
    · have hd : decide (100000 ≤ wear) = false := by simp; omega
      rw [hd]
      have hc := hcall false
      clear hcall ht B0 hrk x3 hwe hx hd
      go_enter Tryz.func61, Tryz.ntmps61
      go_wp2_with fail
      refine hc.mono ?_
      rintro e w1 ⟨rfl, b1⟩
      clear hc
      go_wp2
      go_ret
      exact ⟨rfl, HB.out.trans (b1.mono HB.out.size)⟩
  · rw [wornAt_out (by simpa [ht.len] using hx)]
    have hc := hcall false
    clear hcall ht B0
    by_cases h1 : 0 ≤ x
    · have h2 : ¬ x < (n : Int) := by omega
      go_enter Tryz.func61, Tryz.ntmps61
      go_wp2_with fail
      refine hc.mono ?_
      rintro e w1 ⟨rfl, b1⟩
      clear hc
      go_wp2
      go_ret
      exact ⟨rfl, HB.out.trans (b1.mono HB.out.size)⟩
    · go_enter Tryz.func61, Tryz.ntmps61
      go_wp2_with fail
      refine hc.mono ?_
      rintro e w1 ⟨rfl, b1⟩
      clear hc
      go_wp2
      go_ret
      exact ⟨rfl, HB.out.trans (b1.mono HB.out.size)⟩
end

section
open Go.RowKit
/-- The code of an erase, and the chip behind it. -/
def codeE (ok : Bool) (ds : List BkD) (x : Int) : Int := mayD ok ds x (wornAt ds x)
def eraseAt (ds : List BkD) (k : Nat) : List BkD := match ds[k]? with | some b => ds.set k ⟨List.replicate 8 ⟨false, []⟩, b.wear + 1, b.bad⟩ | none => ds
def eraseD (ok : Bool) (ds : List BkD) (x : Int) : List BkD := if codeE ok ds x = 0 then eraseAt ds x.toNat else ds
set_option maxRecDepth 100000 in
set_option maxHeartbeats 8000000 in
theorem eraseS (a : Option Addr) (n cap : Nat) (bs : List BkR) (x : Int) (w : World) (ht : CR w a n bs) :
    Calls Tryz.prog 62 #[.agg #[.slice a n cap], .int .i64 x] w (ChCA w (eraseD (chipOkB (bs.map BkR.D)) (bs.map BkR.D) x) (codeE (chipOkB (bs.map BkR.D)) (bs.map BkR.D) x)) := by
  have hnn := ht.n
  have B0 : Below w.heap.size w ((w.alloc (.cells #[.slice a n cap] 26)).alloc (.cells #[.slice none 0 0] 26)) := ((Below.refl _ w).alloc (Nat.le_refl _) _).alloc (by simp) _
  have z0 := (Blk.new w 26 #[.slice a n cap]).alloc (.cells #[.slice none 0 0] 26)
  have z1 := Blk.new (w.alloc (.cells #[.slice a n cap] 26)) 26 #[.slice none 0 0]
  simp only [World.size_alloc] at z1
  have hws : ((w.alloc (.cells #[.slice a n cap] 26)).alloc (.cells #[.slice none 0 0] 26)).heap.size = w.heap.size + 2 := by simp
  obtain ⟨H, hH⟩ : ∃ H, w.heap.size = H := ⟨_, rfl⟩
  rw [hH] at z0 z1 hws
  obtain ⟨i0, hi, hz0, hz1, hz2⟩ := info_parts Tryz.infoPage
  obtain ⟨M, hM⟩ : ∃ M, M = madeCells (Value.agg #[.bool false, .slice none 0 0]).cells 16 := ⟨_, rfl⟩
  have hmk : ∀ W : World, (Instr.makeSlice 40 (.int .i64 8) (.int .i64 8)).run Tryz.prog W = .ok (.slice (some ⟨W.heap.size, 0, none⟩) 8 8) (W.alloc (.cells M 92)) := fun W => by
    have h := run_make (P := Tryz.prog) W 40 92 i0 _ Tryz.underlying40 hi hz0 .i64 .i64 8 8 (by omega) (by omega) (by rw [hz2]; omega) (by omega)
    rw [hz1] at h
    rw [hM]
    exact h
  have HM : Hid _ := hM
  clear hM hi hz0 hz1 hz2
  have cE := fun (W : World) (h : CR W a n bs) => l10EraseS a n cap bs x W h
  generalize hok : chipOkB (bs.map BkR.D) = ok at cE
  obtain ⟨code, hcode⟩ : ∃ code, codeE ok (bs.map BkR.D) x = code := ⟨_, rfl⟩
  unfold codeE at hcode
  rw [hcode] at cE
  have CE : Hid _ := cE
  have HOK : Hid (chipOkB (bs.map BkR.D) = ok) := hok
  have HCO : Hid (mayD ok (bs.map BkR.D) x (wornAt (bs.map BkR.D) x) = code) := hcode
  have HD : Hid (eraseD ok (bs.map BkR.D) x = if code = 0 then eraseAt (bs.map BkR.D) x.toNat else bs.map BkR.D) := by show _ = _; unfold eraseD codeE; rw [hcode]
  have HCE : Hid (codeE ok (bs.map BkR.D) x = code) := hcode
  clear cE hok hcode
  go_enter Tryz.func62, Tryz.ntmps62
  have x00 := z0.cell 0
  simp at x00
  go_upto_region 1 with fail
  obtain ⟨W0, hW0⟩ : ∃ W, (w.alloc (.cells #[.slice a n cap] 26)).alloc (.cells #[.slice none 0 0] 26) = W := ⟨_, rfl⟩
  rw [hW0] at B0 z0 z1 hws x00 ⊢
  clear hW0
  have HW : Hid _ := hws
  have HH : Hid (w.heap.size = H) := hH
  have HT : Hid (CR W0 a n bs) := ht.keep B0
  have HB0 : Hid (Below H w W0) := by rw [← hH]; exact B0
  have HZ0 : Hid (Blk W0 H 26 #[.slice a n cap]) := z0
  have HZ1 : Hid (Blk W0 (H + 1) 26 #[.slice none 0 0]) := z1
  have hln : Hid (bs.length = n) := ht.len
  clear ht B0 z0 z1 hH
  go_wp2_with fail
  refine (copyChS a n cap bs W0 HT.out).mono ?_
  rintro e w1 ⟨aC, nC, cC, tC, rfl, qC, hlC, b1⟩
  obtain rfl : nC = n := by rw [← hlC, qC.len]; simp [hln.out]
  have b2 : Below w1.heap.size w1 (w1.alloc (.cells #[.slice aC nC cC] 26)) := (Below.refl _ w1).alloc (Nat.le_refl _) _
  have zX := Blk.new w1 26 #[.slice aC nC cC]
  have y0 := ((Blk.keep HZ0.out b1).keep b2).cell 0
  simp at y0
  clear x00
  go_wp2_with fail
  obtain ⟨W2, hW2⟩ : ∃ W, w1.alloc (.cells #[.slice aC nC cC] 26) = W := ⟨_, rfl⟩
  rw [hW2] at b2 zX y0 ⊢
  clear hW2
  obtain ⟨X, hX⟩ : ∃ X, w1.heap.size = X := ⟨_, rfl⟩
  have hX0 : W0.heap.size ≤ X := by rw [← hX]; exact b1.size
  rw [hX] at zX ⊢
  have hFX : Hid (∀ g ∈ fpBs (.slice aC nC cC) tC, g < X) := fun g hg => by rw [← hX]; exact qC.own.lt g hg
  have q2 := qC.keep b2
  have B2 : Below W0.heap.size W0 W2 := b1.trans (b2.mono b1.size)
  clear qC b1 b2 hX
  refine (CE.out W2 (HT.out.keep B2)).mono ?_
  rintro e w3 ⟨rfl, b3⟩
  have q3 := q2.keep b3
  have z3 := zX.keep b3
  have B3 : Below W0.heap.size W0 w3 := B2.trans (b3.mono B2.size)
  clear q2 zX B2 b3 y0
  by_cases hc0 : code = 0
  · subst hc0
    obtain ⟨hokt, k, r, hxk, hrk, hbad, hfull⟩ := code_zero HCO.out
    subst hxk
    have hkn : k < nC := by have := (List.getElem?_eq_some_iff.1 hrk).1; have := hln.out; omega
    have hki : (k : Int) < (nC : Int) := by omega
    obtain ⟨t, htk, hrt⟩ := same_at (f := BkR.D) (ps := bs) (qs := tC) q3.D hrk
    have hrow := q3.own.1
    rw [hlC] at hrow
    rcases hrow.cases with ⟨_, h0, _⟩ | ⟨g, c, hv, hgl⟩
    · omega
    · simp only [Value.slice.injEq] at hv
      obtain ⟨rfl, _, rfl⟩ := hv
      have hgX : g < X := hFX.out g (fpBs_row rfl)
      have hg0 : W0.heap.size ≤ g := q3.new g (fpBs_row rfl)
      have HDC : Hid (tC.map BkR.D = bs.map BkR.D) := q3.D
      have hD : t.wear = r.wear ∧ t.bad = r.bad := by unfold BkR.D at hrt; simp only [BkD.mk.injEq] at hrt; exact ⟨hrt.2.1, hrt.2.2⟩
      have hw0 : 0 ≤ r.wear ∧ r.wear < 100000 := by
        have h1 := HOK.out
        rw [hokt, chipOkB_iff] at h1
        have h2 := h1.2.2 r.D (List.mem_map_of_mem (List.mem_of_getElem? hrk))
        have h3 := h2.2.1
        rw [wornAt_in hrk] at hfull
        simp at hfull
        exact ⟨h3, hfull⟩
      clear hokt
      obtain ⟨b, off, r', ha', hlt, hrk', x3, _, _⟩ := HT.out.some hkn
      obtain rfl : r = r' := by rw [hrk] at hrk'; simpa using hrk'
      have cw := x3.c1
      obtain ⟨wear, hwe⟩ : ∃ wear, r.wear = wear := ⟨_, rfl⟩
      rw [hwe] at cw hw0
      obtain ⟨hw1, hw2⟩ := hw0
      subst ha'
      have x0 := z3.cell 0
      simp at x0
      have hcc0 : ((0 : Int) == 0) = true := rfl
      go_upto_region 4 with fail
      have bM : Below w3.drew.heap.size w3.drew (w3.drew.alloc (.cells M 92)) := (Below.refl _ _).alloc (Nat.le_refl _) _
      have zM := (z3.keep (Below.refl _ _).drew).keep bM
      have xM := zM.cell 0
      simp at xM
      have rowM := (hrow.keep (Below.refl _ _).drew).keep bM
      have rc0 : (w3.drew.alloc (.cells M 92)).cell? ⟨g, k * 3, none⟩ = some (.slice t.a t.ps.length t.cap) := rowM.cell k 0 t htk (by decide)
      have rf0 := rowM.frozen (k * 3)
      have rc1 : w3.cell? ⟨g, k * 3, none⟩ = some (.slice t.a t.ps.length t.cap) := hrow.cell k 0 t htk (by decide)
      have rf1 : w3.frozen? ⟨g, k * 3, none⟩ = false := hrow.frozen (k * 3)
      have hxw : w3.drew.cell? ⟨X, 0, none⟩ = some (.slice (some ⟨g, 0, none⟩) nC cC) := x0
      have q3d := q3.keep (Below.refl w3.heap.size w3).drew
      have hnp := new_row (W := w3.drew) HM.out
      have q5 := q3d.pages hlC htk bM hnp (by simp)
      have hXg : (⟨X, 0, none⟩ : Addr).block ≠ g := by show X ≠ g; omega
      have z5 := zM.other (B' := g) (by omega) (k * 3) (.slice (some ⟨w3.drew.heap.size, 0, none⟩) 8 8)
      have B5 : Below W0.heap.size W0 ((w3.drew.alloc (.cells M 92)).setCell ⟨g, k * 3, none⟩ (.slice (some ⟨w3.drew.heap.size, 0, none⟩) 8 8)) := ((B3.drew).trans (bM.mono B3.size)).setCell (p := ⟨g, k * 3, none⟩) hg0 _
      have HP5 : Hid _ := And.intro q5 (And.intro z5 B5)
      clear bM zM rowM q3d hnp q5 z5 B5
      refine wp_region_noPanic ?_
      refine wp_region_last (fun W : World => W.cell? ⟨X, 0, none⟩ = some (.slice (some ⟨g, 0, none⟩) nC cC)) 6 (by kernel_rfl) (by kernel_rfl) (by go_keep) 6 (by kernel_rfl) (fun hS => ?_)
      refine wpAnyH_take (i := 0) (v := ?gv1) rfl (by kernel_rfl) (by kernel_rfl) (by kernel_rfl) (fun _ _ _ h => h) (Or.inl ⟨by kernel_rfl, ?gy1⟩) (by assumption) ?gr1
      case gy1 => (intro w' hSw; (try dsimp only at hSw); go_simp; (try with_reducible rfl))
      try simp only [Act.put, List.setIfInBounds_toArray, List.set_cons_zero, List.set_cons_succ, List.getElem_toArray, List.getElem_cons_zero]
      refine wpAnyH_take (i := 1) (v := ?gv2) rfl (by kernel_rfl) (by kernel_rfl) (by kernel_rfl) (fun _ _ _ h => h) (Or.inl ⟨by kernel_rfl, ?gy2⟩) (by assumption) ?gr2
      case gy2 => (intro w' hSw; (try dsimp only at hSw); go_simp; (try with_reducible rfl))
      try simp only [Act.put, List.setIfInBounds_toArray, List.set_cons_zero, List.set_cons_succ, List.getElem_toArray, List.getElem_cons_succ, List.getElem_cons_zero]
      refine wpAnyH_take (i := 2) (v := ?gv3) rfl (by kernel_rfl) (by kernel_rfl) (by kernel_rfl) (fun _ _ _ h => h) (Or.inl ⟨by kernel_rfl, ?gy3⟩) (by assumption) ?gr3
      case gy3 => (intro w' hSw; (try dsimp only at hSw); go_simp; (try with_reducible rfl))
      try simp only [Act.put, List.setIfInBounds_toArray, List.set_cons_zero, List.set_cons_succ, List.getElem_toArray, List.getElem_cons_succ, List.getElem_cons_zero]
      refine wpAnyH_ready (rs := [3]) (by kernel_rfl) (by simp) ?_
      refine AllReadyH.cons rfl (fun K hK => ?_) AllReadyH.nil
      go_simp
      clear hS
      try dsimp only
      refine Shut.out hK _ _ (xM) (fun hS => ?_)
      try simp only [Act.put, List.setIfInBounds_toArray, List.set_cons_zero, List.set_cons_succ, List.getElem_toArray, List.getElem_cons_succ, List.getElem_cons_zero]
      refine wpAnyH_take (i := 4) (v := ?gv4) rfl (by kernel_rfl) (by kernel_rfl) (by kernel_rfl) (fun _ _ _ h => h) (Or.inl ⟨by kernel_rfl, ?gy4⟩) (by assumption) ?gr4
      case gy4 => (intro w' hSw; (try dsimp only at hSw); go_simp; (try with_reducible rfl))
      try simp only [Act.put, List.setIfInBounds_toArray, List.set_cons_zero, List.set_cons_succ, List.getElem_toArray, List.getElem_cons_succ, List.getElem_cons_zero]
      refine wpAnyH_take (i := 5) (v := ?gv5) rfl (by kernel_rfl) (by kernel_rfl) (by kernel_rfl) (fun _ _ _ h => h) (Or.inl ⟨by kernel_rfl, ?gy5⟩) (by assumption) ?gr5
      case gy5 => (intro w' hSw; (try dsimp only at hSw); go_simp; (try with_reducible rfl))
      try simp only [Act.put, List.setIfInBounds_toArray, List.set_cons_zero, List.set_cons_succ, List.getElem_toArray, List.getElem_cons_succ, List.getElem_cons_zero]
      refine wpAnyH_done (by kernel_rfl) ?_ _
      refine wpOp_last rfl (fun K hK => ?_)
      clear hS
      go_simp
      refine Shut.out hK _ _ (NoPanic.normal ?_)
      obtain ⟨q5, z5, B5⟩ := HP5.out
      have hcomm : (w3.drew.alloc (.cells M 92)).setCell ⟨g, k * 3, none⟩ (.slice (some ⟨w3.heap.size, 0, none⟩) 8 8) = ((w3.setCell ⟨g, k * 3, none⟩ (.slice (some ⟨w3.heap.size, 0, none⟩) 8 8)).alloc (.cells M 92)).drew := World.setCell_alloc_past (w := w3.drew) _ g (k * 3) _ hgl
      have q5' : NewBs ((w3.drew.alloc (.cells M 92)).setCell ⟨g, k * 3, none⟩ (.slice (some ⟨w3.heap.size, 0, none⟩) 8 8)) W0.heap.size (.slice (some ⟨g, 0, none⟩) nC cC) _ _ := q5
      have z5' : Blk ((w3.drew.alloc (.cells M 92)).setCell ⟨g, k * 3, none⟩ (.slice (some ⟨w3.heap.size, 0, none⟩) 8 8)) X 26 #[.slice (some ⟨g, 0, none⟩) nC cC] := z5
      have B5' : Below W0.heap.size W0 ((w3.drew.alloc (.cells M 92)).setCell ⟨g, k * 3, none⟩ (.slice (some ⟨w3.heap.size, 0, none⟩) 8 8)) := B5
      rw [hcomm] at q5' z5' B5'
      obtain ⟨W5, hW5⟩ : ∃ W, ((w3.setCell ⟨g, k * 3, none⟩ (.slice (some ⟨w3.heap.size, 0, none⟩) 8 8)).alloc (.cells M 92)).drew = W := ⟨_, rfl⟩
      rw [hW5] at q5' z5' B5' ⊢
      clear xM rc0 rf0 rc1 rf1 hxw x0 q3 z3 hrow HP5 hcomm q5 z5 B5 hW5 hmk B3
      have hk5 : (tC.set k ⟨some ⟨w3.drew.heap.size, 0, none⟩, 8, List.replicate 8 pgZ, t.wear, t.bad⟩)[k]? = some ⟨some ⟨w3.drew.heap.size, 0, none⟩, 8, List.replicate 8 pgZ, t.wear, t.bad⟩ := by rw [List.getElem?_set_self (List.getElem?_eq_some_iff.1 htk).1]
      have hl5 : (tC.set k ⟨some ⟨w3.drew.heap.size, 0, none⟩, 8, List.replicate 8 pgZ, t.wear, t.bad⟩).length = nC := by rw [List.length_set, hlC]
      have q6 := (NewBs.keep q5' (Below.refl _ _).drew).wear hl5 hk5 (wear + 1)
      have row5 := q5'.own.1
      rw [hl5] at row5
      have rc1 : W5.cell? ⟨g, k * 3 + 1, none⟩ = some (.int .i64 t.wear) := row5.cell k 1 (⟨some ⟨w3.drew.heap.size, 0, none⟩, 8, List.replicate 8 pgZ, t.wear, t.bad⟩ : BkR) hk5 (by decide)
      have rf1 : W5.frozen? ⟨g, k * 3 + 1, none⟩ = false := row5.frozen (k * 3 + 1)
      have x0 := z5'.cell 0
      simp at x0
      have hyH := (Blk.keep HZ0.out B5').cell 0
      simp at hyH
      have cw5 := (B5'.cell (p := ⟨b, off + k * 3 + 1, none⟩) hlt).trans cw
      have x0d : W5.drew.cell? ⟨X, 0, none⟩ = some (.slice (some ⟨g, 0, none⟩) nC cC) := x0
      have yHd : W5.drew.cell? ⟨H, 0, none⟩ = some (.slice (some ⟨b, off, none⟩) nC cap) := hyH
      have cwd : W5.drew.cell? ⟨b, off + k * 3 + 1, none⟩ = some (.int .i64 wear) := cw5
      have HL6 : Hid _ := q6
      have z6 := (Blk.keep z5' (Below.refl _ _).drew).other (B' := g) (by omega) (k * 3 + 1) (.int .i64 (wear + 1))
      have B6 : Below W0.heap.size W0 (W5.drew.setCell ⟨g, k * 3 + 1, none⟩ (.int .i64 (wear + 1))) := B5'.drew.setCell (p := ⟨g, k * 3 + 1, none⟩) hg0 _
      have HP6 : Hid (Blk (W5.drew.setCell ⟨g, k * 3 + 1, none⟩ (.int .i64 (wear + 1))) X 26 #[.slice (some ⟨g, 0, none⟩) nC cC] ∧ Below W0.heap.size W0 (W5.drew.setCell ⟨g, k * 3 + 1, none⟩ (.int .i64 (wear + 1)))) := ⟨z6, B6⟩
      clear q6 z6 B6 row5 q5' z5'
      have hwr : IntKind.i64.wrap (wear + 1) = wear + 1 := wrap_small _ (by omega) (by omega)
      go_upto_region 5 with fail
      refine wp_region_noPanic ?_
      refine wp_region_last (fun W : World => W.cell? ⟨X, 0, none⟩ = some (.slice (some ⟨g, 0, none⟩) nC cC) ∧ W.cell? ⟨H, 0, none⟩ = some (.slice (some ⟨b, off, none⟩) nC cap) ∧ W.cell? ⟨b, off + k * 3 + 1, none⟩ = some (.int .i64 wear)) 12 (by kernel_rfl) (by kernel_rfl) (by go_keep) 12 (by kernel_rfl) (fun hS => ?_)
      refine wpAnyH_take (i := 0) (v := ?gv6) rfl (by kernel_rfl) (by kernel_rfl) (by kernel_rfl) (fun _ _ _ h => h) (Or.inl ⟨by kernel_rfl, ?gy6⟩) (by assumption) ?gr6
      case gy6 => (intro w' hSw; (try dsimp only at hSw); go_simp; (try with_reducible rfl))
      try simp only [Act.put, List.setIfInBounds_toArray, List.set_cons_zero, List.set_cons_succ, List.getElem_toArray, List.getElem_cons_zero]
      refine wpAnyH_take (i := 1) (v := ?gv7) rfl (by kernel_rfl) (by kernel_rfl) (by kernel_rfl) (fun _ _ _ h => h) (Or.inl ⟨by kernel_rfl, ?gy7⟩) (by assumption) ?gr7
      case gy7 => (intro w' hSw; (try dsimp only at hSw); go_simp; (try with_reducible rfl))
      try simp only [Act.put, List.setIfInBounds_toArray, List.set_cons_zero, List.set_cons_succ, List.getElem_toArray, List.getElem_cons_succ, List.getElem_cons_zero]
      refine wpAnyH_take (i := 2) (v := ?gv8) rfl (by kernel_rfl) (by kernel_rfl) (by kernel_rfl) (fun _ _ _ h => h) (Or.inl ⟨by kernel_rfl, ?gy8⟩) (by assumption) ?gr8
      case gy8 => (intro w' hSw; (try dsimp only at hSw); go_simp; (try with_reducible rfl))
      try simp only [Act.put, List.setIfInBounds_toArray, List.set_cons_zero, List.set_cons_succ, List.getElem_toArray, List.getElem_cons_succ, List.getElem_cons_zero]
      refine wpAnyH_take (i := 3) (v := ?gv9) rfl (by kernel_rfl) (by kernel_rfl) (by kernel_rfl) (fun _ _ _ h => h) (Or.inl ⟨by kernel_rfl, ?gy9⟩) (by assumption) ?gr9
      case gy9 => (intro w' hSw; (try dsimp only at hSw); go_simp; (try with_reducible rfl))
      try simp only [Act.put, List.setIfInBounds_toArray, List.set_cons_zero, List.set_cons_succ, List.getElem_toArray, List.getElem_cons_succ, List.getElem_cons_zero]
      refine wpAnyH_take (i := 4) (v := ?gv10) rfl (by kernel_rfl) (by kernel_rfl) (by kernel_rfl) (fun _ _ _ h => h) (Or.inl ⟨by kernel_rfl, ?gy10⟩) (by assumption) ?gr10
      case gy10 => (intro w' hSw; (try dsimp only at hSw); go_simp; (try with_reducible rfl))
      try simp only [Act.put, List.setIfInBounds_toArray, List.set_cons_zero, List.set_cons_succ, List.getElem_toArray, List.getElem_cons_succ, List.getElem_cons_zero]
      refine wpAnyH_take (i := 5) (v := ?gv11) rfl (by kernel_rfl) (by kernel_rfl) (by kernel_rfl) (fun _ _ _ h => h) (Or.inl ⟨by kernel_rfl, ?gy11⟩) (by assumption) ?gr11
      case gy11 => (intro w' hSw; (try dsimp only at hSw); go_simp; (try with_reducible rfl))
      try simp only [Act.put, List.setIfInBounds_toArray, List.set_cons_zero, List.set_cons_succ, List.getElem_toArray, List.getElem_cons_succ, List.getElem_cons_zero]
      refine wpAnyH_take (i := 6) (v := ?gv12) rfl (by kernel_rfl) (by kernel_rfl) (by kernel_rfl) (fun _ _ _ h => h) (Or.inl ⟨by kernel_rfl, ?gy12⟩) (by assumption) ?gr12
      case gy12 => (intro w' hSw; (try dsimp only at hSw); go_simp; (try with_reducible rfl))
      try simp only [Act.put, List.setIfInBounds_toArray, List.set_cons_zero, List.set_cons_succ, List.getElem_toArray, List.getElem_cons_succ, List.getElem_cons_zero]
      refine wpAnyH_take (i := 7) (v := ?gv13) rfl (by kernel_rfl) (by kernel_rfl) (by kernel_rfl) (fun _ _ _ h => h) (Or.inl ⟨by kernel_rfl, ?gy13⟩) (by assumption) ?gr13
      case gy13 => (intro w' hSw; (try dsimp only at hSw); go_simp; (try with_reducible rfl))
      try simp only [Act.put, List.setIfInBounds_toArray, List.set_cons_zero, List.set_cons_succ, List.getElem_toArray, List.getElem_cons_succ, List.getElem_cons_zero]
      refine wpAnyH_take (i := 8) (v := ?gv14) rfl (by kernel_rfl) (by kernel_rfl) (by kernel_rfl) (fun _ _ _ h => h) (Or.inl ⟨by kernel_rfl, ?gy14⟩) (by assumption) ?gr14
      case gy14 => (intro w' hSw; (try dsimp only at hSw); go_simp; (try with_reducible rfl))
      try simp only [Act.put, List.setIfInBounds_toArray, List.set_cons_zero, List.set_cons_succ, List.getElem_toArray, List.getElem_cons_succ, List.getElem_cons_zero]
      refine wpAnyH_take (i := 9) (v := ?gv15) rfl (by kernel_rfl) (by kernel_rfl) (by kernel_rfl) (fun _ _ _ h => h) (Or.inl ⟨by kernel_rfl, ?gy15⟩) (by assumption) ?gr15
      case gy15 => (intro w' hSw; (try dsimp only at hSw); go_simp; (try with_reducible rfl))
      try simp only [Act.put, List.setIfInBounds_toArray, List.set_cons_zero, List.set_cons_succ, List.getElem_toArray, List.getElem_cons_succ, List.getElem_cons_zero]
      refine wpAnyH_take (i := 10) (v := ?gv16) rfl (by kernel_rfl) (by kernel_rfl) (by kernel_rfl) (fun _ _ _ h => h) (Or.inl ⟨by kernel_rfl, ?gy16⟩) (by assumption) ?gr16
      case gy16 => (intro w' hSw; (try dsimp only at hSw); go_simp; (try with_reducible rfl))
      try simp only [Act.put, List.setIfInBounds_toArray, List.set_cons_zero, List.set_cons_succ, List.getElem_toArray, List.getElem_cons_succ, List.getElem_cons_zero]
      refine wpAnyH_take (i := 11) (v := ?gv17) rfl (by kernel_rfl) (by kernel_rfl) (by kernel_rfl) (fun _ _ _ h => h) (Or.inl ⟨by kernel_rfl, ?gy17⟩) (by assumption) ?gr17
      case gy17 => (intro w' hSw; (try dsimp only at hSw); go_simp; (try with_reducible rfl))
      try simp only [Act.put, List.setIfInBounds_toArray, List.set_cons_zero, List.set_cons_succ, List.getElem_toArray, List.getElem_cons_succ, List.getElem_cons_zero]
      refine wpAnyH_done (by kernel_rfl) ?_ _
      refine wpOp_last rfl (fun K hK => ?_)
      clear hS
      go_simp
      refine Shut.out hK _ _ (NoPanic.normal ?_)
      clear rc1 rf1 x0 hyH cw5 x0d yHd cwd
      have q6' : NewBs ((W5.setCell ⟨g, k * 3 + 1, none⟩ (.int .i64 (wear + 1))).drew) W0.heap.size (.slice (some ⟨g, 0, none⟩) nC cC) _ _ := HL6.out
      have z6' : Blk ((W5.setCell ⟨g, k * 3 + 1, none⟩ (.int .i64 (wear + 1))).drew) X 26 #[.slice (some ⟨g, 0, none⟩) nC cC] := HP6.out.1
      have B6' : Below W0.heap.size W0 ((W5.setCell ⟨g, k * 3 + 1, none⟩ (.int .i64 (wear + 1))).drew) := HP6.out.2
      clear HL6 HP6
      obtain ⟨W6, hW6⟩ : ∃ W, (W5.setCell ⟨g, k * 3 + 1, none⟩ (.int .i64 (wear + 1))).drew = W := ⟨_, rfl⟩
      rw [hW6] at q6' z6' B6' ⊢
      clear hW6 hwr
      have x0 := z6'.cell 0
      have zr := Blk.keep HZ1.out B6'
      have r0 := zr.cell 0
      have f0 := zr.frozen 0
      have zf := zr.set 0 (.slice (some ⟨g, 0, none⟩) nC cC)
      have d0 := zf.cell 0
      simp at x0 r0 d0
      have HQ : Hid _ := q6'
      have HB6 : Hid (Below W0.heap.size W0 W6) := B6'
      have HLL : Hid (tC.length = nC) := hlC
      have HRR : Hid (bs[k]? = some r ∧ r.bad = t.bad ∧ r.wear = wear ∧ tC.map BkR.D = bs.map BkR.D) := by
        refine ⟨hrk, hD.2.symm, hwe, ?_⟩
        exact HDC.out
      clear q6' z6' B6' zr zf hlC hrk hwe hD hrt htk hk5 hl5 x3 hrk' hlt cw B5'
      go_wp2
      refine bodyPost_ret (v := .tuple #[.agg #[.slice (some ⟨g, 0, none⟩) nC cC], .int .i64 0]) (by simp [results, Tryz.f62, go_sem, d0]) rfl ?_
      have hw := HW.out
      have hH := HH.out
      have hbs := HB0.out
      have hb3 := HB6.out
      obtain ⟨e1, e2, e3, e4⟩ := HRR.out
      have hfin : eraseD ok (bs.map BkR.D) (k : Int) = (((bs.map BkR.D).set k ⟨List.replicate 8 ⟨false, []⟩, t.wear, t.bad⟩).set k ⟨(List.replicate 8 pgZ).map PgR.D, wear + 1, t.bad⟩) := by
        rw [HD.out, if_pos trivial, set_set_at]
        unfold eraseAt
        simp only [Int.toNat_natCast, List.getElem?_map, e1, Option.map_some]
        rw [← e2, ← e3]
        rfl
      rw [hfin, HCE.out]
      have bel : Below w.heap.size w W6 := by rw [hH]; exact hbs.trans (hb3.mono (by omega))
      exact ⟨some ⟨g, 0, none⟩, nC, cC, _, rfl, NewBs.wider (B := W0.heap.size) (NewBs.set_below (B := W0.heap.size) (j := H + 1) HQ.out (by omega)) (by omega), by rw [List.length_set, List.length_set]; exact HLL.out, bel.setCell (p := ⟨H + 1, 0, none⟩) (by simp only; omega) _⟩
  · have hcb : (code == 0) = false := by simp [hc0]
    have x0 := z3.cell 0
    have zr := Blk.keep HZ1.out B3
    have r0 := zr.cell 0
    have f0 := zr.frozen 0
    have zf := zr.set 0 (.slice aC nC cC)
    have d0 := zf.cell 0
    simp at x0 r0 d0
    have HQ : Hid _ := q3
    have HB3 : Hid (Below W0.heap.size W0 w3) := B3
    have HL : Hid (tC.length = nC) := hlC
    have HC0 : Hid (¬ code = 0) := hc0
    clear q3 z3 B3 zr zf hlC hc0
    go_wp2
    refine bodyPost_ret (v := .tuple #[.agg #[.slice aC nC cC], .int .i64 code]) (by simp [results, Tryz.f62, go_sem, d0]) rfl ?_
    have hw := HW.out
    have hH := HH.out
    have hbs := HB0.out
    have hb3 := HB3.out
    rw [HD.out, if_neg HC0.out, HCE.out]
    have bel : Below w.heap.size w w3 := by rw [hH]; exact hbs.trans (hb3.mono (by omega))
    exact ⟨aC, nC, cC, tC, rfl, NewBs.wider (B := W0.heap.size) (NewBs.set_below (B := W0.heap.size) (j := H + 1) HQ.out (by omega)) (by omega), HL.out, bel.setCell (p := ⟨H + 1, 0, none⟩) (by simp only; omega) _⟩
end

section
open Go.RowKit
theorem ok_erase {ds : List BkD} (h : ChOk ds) (x : Int) : ChOk (eraseD true ds x) := by
  unfold eraseD
  split
  · rename_i hc
    unfold codeE mayD at hc
    split at hc
    · omega
    · rename_i hx
      obtain ⟨k, rfl⟩ : ∃ k : Nat, x = (k : Int) := ⟨x.toNat, by omega⟩
      split at hc
      · omega
      · split at hc
        · omega
        · rename_i hw
          unfold eraseAt
          split
          · rename_i b hb
            rw [Int.toNat_natCast] at hb ⊢
            have hok := h.2.2 b (List.mem_of_getElem? hb)
            have hww : b.wear < 100000 := by
              unfold wornAt at hw
              simp [hb] at hw
              exact hw
            refine ok_set h ⟨rfl, by have := hok.2.1; dsimp only; omega, by dsimp only; omega, fun i p hp => ?_⟩
            have hp' : (List.replicate 8 (⟨false, []⟩ : PgD))[i]? = some p := hp
            rw [List.getElem?_replicate] at hp'
            split at hp'
            · simp at hp'
              subst hp'
              exact ⟨rfl, by show false = decide (i < 0); simp⟩
            · simp at hp'
          · exact h
  · exact h
theorem ok_tot {ds : List BkD} (h : ChOk ds) : totB ds ≤ 1048576 := by
  have hb : ∀ b ∈ ds, totP b.ps ≤ 3208 := fun b hb => by
    have h1 := h.2.2 b hb
    have h2 := totP_bound b.ps (fun p hp => by
      obtain ⟨i, hi⟩ := List.mem_iff_getElem?.1 hp
      have := (h1.2.2.2 i p hi).1
      unfold pgOk at this
      simp at this
      exact this.1)
    rw [h1.1] at h2
    omega
  have h3 := totB_bound ds hb
  have h4 := h.2.1
  omega
end

section
open Go.RowKit
theorem pgsT_at {j i : Nat} (h : i < 8) : (pgsT j)[i]? = some (if i < j then pgU else pgZ) := by simp [pgsT, h]
theorem pgsT_succ {j : Nat} (_h : j < 8) : (pgsT j).set j pgU = pgsT (j + 1) := by
  refine List.ext_getElem? fun i => ?_
  rw [List.getElem?_set]
  by_cases hi : i < 8
  · rw [pgsT_at hi, pgsT_at hi, pgsT_len]
    by_cases e : j = i
    · subst e; simp [hi]
    · rw [if_neg e]
      by_cases h2 : i < j
      · rw [if_pos h2, if_pos (by omega)]
      · rw [if_neg h2, if_neg (by omega)]
  · have h1 : (pgsT (j + 1))[i]? = none := List.getElem?_eq_none (by rw [pgsT_len]; omega)
    have h2 : (pgsT j)[i]? = none := List.getElem?_eq_none (by rw [pgsT_len]; omega)
    rw [h1, h2, if_neg (by omega)]
end

section
open Go.RowKit
def tornD (ds : List BkD) (k : Nat) (kp : Int) : List BkD := match ds[k]? with | some b => ds.set k ⟨(List.range 8).map fun i => ⟨decide (i < min kp.toNat 8), []⟩, b.wear + 1, b.bad⟩ | none => ds
theorem pgsT_D (j : Nat) : (pgsT j).map PgR.D = (List.range 8).map fun i => (⟨decide (i < j), []⟩ : PgD) := by
  unfold pgsT
  rw [List.map_map]
  refine List.map_congr_left fun i _ => ?_
  simp only [Function.comp]
  by_cases h : i < j
  · rw [if_pos h]; simp [pgU, PgR.D, h]
  · rw [if_neg h]; simp [pgZ, PgR.D, h]
end

section
open Go.RowKit
/-- What a block takes whose page was written with new bytes. -/
theorem fp_pg {W : World} {v : Value} {us : List BkR} {k j : Nat} {b : BkR} {wear : Int} {bad : Bool} {g : Nat} (hk : us[k]? = some b) (hg : g ∈ fpBs v (us.set k ⟨b.a, b.cap, b.ps.set j ⟨true, some ⟨W.heap.size, 0, none⟩, 0, []⟩, wear, bad⟩)) : g ∈ fpBs v us ∨ W.heap.size ≤ g := by
  refine fp_put (q' := ⟨b.a, b.cap, b.ps.set j ⟨true, some ⟨W.heap.size, 0, none⟩, 0, []⟩, wear, bad⟩) hk (fun x hx => ?_) g hg
  rcases List.mem_append.1 hx with h1 | h1
  · refine .inl (List.mem_append_left _ ?_)
    have : BkR.v ⟨b.a, b.cap, b.ps.set j ⟨true, some ⟨W.heap.size, 0, none⟩, 0, []⟩, wear, bad⟩ = b.v := by unfold BkR.v; rw [List.length_set]
    rw [this] at h1
    exact h1
  · obtain ⟨y, hy, hyf⟩ := List.mem_flatMap.1 h1
    rcases mem_set hy with rfl | ⟨i, _, hyi⟩
    · right
      simp [PgR.v, Value.ownBlock] at hyf
      omega
    · exact .inl (List.mem_append_right _ (List.mem_flatMap.2 ⟨y, List.mem_of_getElem? hyi, hyf⟩))
end

section
open Go.RowKit
theorem pagesT_succ {j : Nat} (_h : j < 8) : ((List.range 8).map fun i => (⟨decide (i < j), []⟩ : PgD)).set j ⟨true, []⟩ = (List.range 8).map fun i => (⟨decide (i < j + 1), []⟩ : PgD) := by
  have h := pgsT_succ _h
  have h2 := congrArg (List.map PgR.D) h
  rw [List.map_set, pgsT_D, pgsT_D] at h2
  exact h2
set_option maxRecDepth 100000 in
set_option maxHeartbeats 16000000 in
theorem devErS (a : Option Addr) (n cap : Nat) (bs : List BkR) (ops : Int) (fa : Option Addr) (m fc : Nat) (fs : List FtD) (down : Bool) (x : Int) (w : World) (ht : CR w a n bs) (hf : FR w fa m fs) :
    Calls Tryz.prog 20 #[.agg #[.slice a n cap, .int .i64 ops, .slice fa m fc, .bool down], .int .i64 x] w (DvCA w ⟨outDs (evCode (bs.map BkR.D) ops fs down (codeE true (bs.map BkR.D) x)) (faD ops fs) (bs.map BkR.D) (eraseAt (bs.map BkR.D) x.toNat) (badD (bs.map BkR.D) x.toNat) (tornD (bs.map BkR.D) x.toNat), outOps (evCode (bs.map BkR.D) ops fs down (codeE true (bs.map BkR.D) x)) ops, fs, outDown (evCode (bs.map BkR.D) ops fs down (codeE true (bs.map BkR.D) x)) (faD ops fs) down⟩ (outCode (evCode (bs.map BkR.D) ops fs down (codeE true (bs.map BkR.D) x)) (faD ops fs))) := by
  have hnn := ht.n
  have hmm := hf.tot
  have B0 : Below w.heap.size w ((w.alloc (.cells #[.slice a n cap, .int .i64 ops, .slice fa m fc, .bool down] 29)).alloc (.cells #[.slice none 0 0, .int .i64 0, .slice none 0 0, .bool false] 29)) := ((Below.refl _ w).alloc (Nat.le_refl _) _).alloc (by simp) _
  have z0 := (Blk.new w 29 #[.slice a n cap, .int .i64 ops, .slice fa m fc, .bool down]).alloc (.cells #[.slice none 0 0, .int .i64 0, .slice none 0 0, .bool false] 29)
  have z1 := Blk.new (w.alloc (.cells #[.slice a n cap, .int .i64 ops, .slice fa m fc, .bool down] 29)) 29 #[.slice none 0 0, .int .i64 0, .slice none 0 0, .bool false]
  simp only [World.size_alloc] at z1
  have hws : ((w.alloc (.cells #[.slice a n cap, .int .i64 ops, .slice fa m fc, .bool down] 29)).alloc (.cells #[.slice none 0 0, .int .i64 0, .slice none 0 0, .bool false] 29)).heap.size = w.heap.size + 2 := by simp
  obtain ⟨H, hH⟩ : ∃ H, w.heap.size = H := ⟨_, rfl⟩
  have HH : Hid (w.heap.size = H) := hH
  rw [hH] at z0 z1 hws
  obtain ⟨CD, hCD⟩ : ∃ c, evCode (bs.map BkR.D) ops fs down (codeE true (bs.map BkR.D) x) = c := ⟨_, rfl⟩
  rw [hCD]
  have HCD : Hid (evCode (bs.map BkR.D) ops fs down (codeE true (bs.map BkR.D) x) = CD) := hCD
  generalize hGP : DvCA w ⟨outDs CD (faD ops fs) (bs.map BkR.D) (eraseAt (bs.map BkR.D) x.toNat) (badD (bs.map BkR.D) x.toNat) (tornD (bs.map BkR.D) x.toNat), outOps CD ops, fs, outDown CD (faD ops fs) down⟩ (outCode CD (faD ops fs)) = P
  have HGP : Hid _ := hGP
  clear hGP hCD
  go_enter Tryz.func20, Tryz.ntmps20
  have x0 := z0.cell 0
  have x1 := z0.cell 1
  have x2 := z0.cell 2
  have x3 := z0.cell 3
  simp at x0 x1 x2 x3
  go_upto_region 1 with fail
  obtain ⟨W0, hW0⟩ : ∃ W, (w.alloc (.cells #[.slice a n cap, .int .i64 ops, .slice fa m fc, .bool down] 29)).alloc (.cells #[.slice none 0 0, .int .i64 0, .slice none 0 0, .bool false] 29) = W := ⟨_, rfl⟩
  rw [hW0] at B0 z0 z1 hws x0 x1 x2 x3 ⊢
  try rw [hH]
  clear hW0 hH
  have HW : Hid _ := hws
  have HB0 : Hid (Below w.heap.size w W0) := B0
  have HT : Hid (∀ W : World, Below W0.heap.size W0 W → CR W a n bs ∧ FR W fa m fs) := fun W h => ⟨(ht.keep B0).keep h, (hf.keep B0).keep h⟩
  have HZ0 : Hid (Blk W0 H 29 #[.slice a n cap, .int .i64 ops, .slice fa m fc, .bool down]) := z0
  have HZ1 : Hid (Blk W0 (H + 1) 29 #[.slice none 0 0, .int .i64 0, .slice none 0 0, .bool false]) := z1
  have hln : Hid (bs.length = n) := ht.len
  clear ht hf B0 z0 z1
  go_wp2_with fail
  refine (copyDevS a n cap bs ops fa m fc fs down W0 (HT.out _ (Below.refl _ _)).1 (HT.out _ (Below.refl _ _)).2).mono ?_
  rintro e w1 ⟨a1, n1, c1, fa1, m1, fc1, qs, rfl, hd, hl, b1⟩
  dsimp only at hd ⊢
  clear x0 x1 x2 x3
  have hn1 : n1 = n := by rw [← hl, hd.bs.len]; simp [hln.out]
  subst hn1
  have zX := Blk.new w1 29 #[.slice a1 n1 c1, .int .i64 ops, .slice fa1 m1 fc1, .bool down]
  have b2 : Below w1.heap.size w1 (w1.alloc (.cells #[.slice a1 n1 c1, .int .i64 ops, .slice fa1 m1 fc1, .bool down] 29)) := (Below.refl _ _).alloc (Nat.le_refl _) _
  have hd2 := hd.keep b2
  have hlt : Hid (∀ g ∈ fpDv a1 n1 c1 fa1 m1 fc1 qs, g < w1.heap.size) := hd.lt
  have hW1 : W0.heap.size ≤ w1.heap.size := b1.size
  have B2 := b1.trans (b2.mono b1.size)
  obtain ⟨X, hX⟩ : ∃ X, w1.heap.size = X := ⟨_, rfl⟩
  rw [hX] at zX hlt hW1
  go_upto_region 2 with fail
  obtain ⟨W2, hW2⟩ : ∃ W, w1.alloc (.cells #[.slice a1 n1 c1, .int .i64 ops, .slice fa1 m1 fc1, .bool down] 29) = W := ⟨_, rfl⟩
  rw [hW2] at zX hd2 B2 b2 ⊢
  try rw [hX]
  clear hW2 b2 b1 hd hX
  have BD : Below W0.heap.size W0 W2.drew := B2.drew
  have hall : Hid (∀ W : World, Below W2.drew.heap.size W2.drew W → W.cell? ⟨H, 0, none⟩ = some (.slice a n1 cap) ∧ W.cell? ⟨H, 1, none⟩ = some (.int .i64 ops) ∧ W.cell? ⟨H, 2, none⟩ = some (.slice fa m fc) ∧ W.cell? ⟨H, 3, none⟩ = some (.bool down)) := fun W hW => by
    have := Blk.keep HZ0.out (BD.trans (hW.mono BD.size))
    exact ⟨this.cell 0, this.cell 1, this.cell 2, this.cell 3⟩
  have HBD : Hid _ := BD
  have hcE := l10EraseS a n1 cap bs x W2.drew (HT.out _ BD).1
  have HMY : Hid (∀ W : World, Below W0.heap.size W0 W → ∀ c : Int, Calls Tryz.prog 52 #[.agg #[.slice a n1 cap, .int .i64 ops, .slice fa m fc, .bool down], .int .i64 c] W fun e w' => e = .returned (.int .i64 (evCode (bs.map BkR.D) ops fs down c)) ∧ Below W.heap.size W w') := fun W h c => l11MayS a n1 cap bs ops fa m fc fs down c W (HT.out _ h).1 (HT.out _ h).2
  have hce : evCode (bs.map BkR.D) ops fs down (mayD (chipOkB (bs.map BkR.D)) (bs.map BkR.D) x (wornAt (bs.map BkR.D) x)) = CD := by rw [← HCD.out]; exact evCode_ok _ _ _ _ (fun b => codeE b (bs.map BkR.D) x)
  obtain ⟨cc, hcc⟩ : ∃ cc, mayD (chipOkB (bs.map BkR.D)) (bs.map BkR.D) x (wornAt (bs.map BkR.D) x) = cc := ⟨_, rfl⟩
  rw [hcc] at hcE hce
  have HCE : Hid _ := hce
  obtain ⟨s0, s1, s2, s3⟩ := hall.out W2.drew (Below.refl _ _)
  clear BD hcc hce
  refine wp_region_noPanic ?_
  refine wp_region_last (fun W : World => W.cell? ⟨H, 0, none⟩ = some (.slice a n1 cap) ∧ W.cell? ⟨H, 1, none⟩ = some (.int .i64 ops) ∧ W.cell? ⟨H, 2, none⟩ = some (.slice fa m fc) ∧ W.cell? ⟨H, 3, none⟩ = some (.bool down)) 6 (by kernel_rfl) (by kernel_rfl) (by go_keep) 6 (by kernel_rfl) (fun hS => ?_)
  refine wpAnyH_take (i := 0) (v := ?gv1) rfl (by kernel_rfl) (by kernel_rfl) (by kernel_rfl) (fun _ _ _ h => h) (Or.inl ⟨by kernel_rfl, ?gy1⟩) (by assumption) ?gr1
  case gy1 => (intro w' hSw; (try dsimp only at hSw); go_simp; (try with_reducible rfl))
  try simp only [Act.put, List.setIfInBounds_toArray, List.set_cons_zero, List.set_cons_succ, List.getElem_toArray, List.getElem_cons_zero]
  refine wpAnyH_take (i := 1) (v := ?gv2) rfl (by kernel_rfl) (by kernel_rfl) (by kernel_rfl) (fun _ _ _ h => h) (Or.inl ⟨by kernel_rfl, ?gy2⟩) (by assumption) ?gr2
  case gy2 => (intro w' hSw; (try dsimp only at hSw); go_simp; (try with_reducible rfl))
  try simp only [Act.put, List.setIfInBounds_toArray, List.set_cons_zero, List.set_cons_succ, List.getElem_toArray, List.getElem_cons_succ, List.getElem_cons_zero]
  refine wpAnyH_take (i := 2) (v := ?gv3) rfl (by kernel_rfl) (by kernel_rfl) (by kernel_rfl) (fun _ _ _ h => h) (Or.inl ⟨by kernel_rfl, ?gy3⟩) (by assumption) ?gr3
  case gy3 => (intro w' hSw; (try dsimp only at hSw); go_simp; (try with_reducible rfl))
  try simp only [Act.put, List.setIfInBounds_toArray, List.set_cons_zero, List.set_cons_succ, List.getElem_toArray, List.getElem_cons_succ, List.getElem_cons_zero]
  refine wpAnyH_take (i := 3) (v := ?gv4) rfl (by kernel_rfl) (by kernel_rfl) (by kernel_rfl) (fun _ _ _ h => h) (Or.inl ⟨by kernel_rfl, ?gy4⟩) (by assumption) ?gr4
  case gy4 => (intro w' hSw; (try dsimp only at hSw); go_simp; (try with_reducible rfl))
  try simp only [Act.put, List.setIfInBounds_toArray, List.set_cons_zero, List.set_cons_succ, List.getElem_toArray, List.getElem_cons_succ, List.getElem_cons_zero]
  refine wpAnyH_ready (rs := [4]) (by kernel_rfl) (by simp) ?_
  refine AllReadyH.cons rfl (fun K hK => ?_) AllReadyH.nil
  go_simp
  (with_reducible refine hcE.mono ?_)
  rintro e W3 ⟨rfl, b3⟩
  have HB3 : Hid (Below W2.drew.heap.size W2.drew W3) := b3
  have hcM := HMY.out W3 (HBD.out.trans (b3.mono HBD.out.size)) cc
  rw [HCE.out] at hcM
  clear b3
  clear hS
  try dsimp only
  refine Shut.out hK _ _ (hall.out W3 HB3.out) (fun hS => ?_)
  try simp only [Act.put, List.setIfInBounds_toArray, List.set_cons_zero, List.set_cons_succ, List.getElem_toArray, List.getElem_cons_succ, List.getElem_cons_zero]
  refine wpAnyH_ready (rs := [5]) (by kernel_rfl) (by simp) ?_
  refine AllReadyH.cons rfl (fun K hK => ?_) AllReadyH.nil
  go_simp
  (with_reducible refine hcM.mono ?_)
  rintro e W4 ⟨rfl, b4⟩
  have HB4 : Hid (Below W2.drew.heap.size W2.drew W4) := HB3.out.trans (b4.mono HB3.out.size)
  clear b4
  clear hS
  try dsimp only
  refine Shut.out hK _ _ (hall.out W4 HB4.out) (fun hS => ?_)
  try simp only [Act.put, List.setIfInBounds_toArray, List.set_cons_zero, List.set_cons_succ, List.getElem_toArray, List.getElem_cons_succ, List.getElem_cons_zero]
  refine wpAnyH_done (by kernel_rfl) ?_ _
  refine wpOp_last rfl (fun K hK => ?_)
  clear hS
  go_simp
  refine Shut.out hK _ _ (NoPanic.normal ?_)
  have b4 : Below W2.heap.size W2 W4 := (Below.refl _ _).drew.trans HB4.out
  have hd4 := hd2.keep b4
  have zX4 := zX.keep b4
  have B4 := B2.trans (b4.mono B2.size)
  have zr4 := Blk.keep HZ1.out B4
  have zH4 := Blk.keep HZ0.out B4
  clear s0 s1 s2 s3 hcE hcM HMY HCE HB3 HB4 hall HBD hd2 zX b4 B2
  by_cases hc0 : CD = 0
  · subst hc0
    obtain ⟨hdv, hdn, hop1, hcz⟩ := evCode_zero HCD.out
    obtain ⟨hok, hop0, hfok⟩ := devB_ops hdv
    subst hdn
    obtain ⟨_, k, r, rfl, hrk, hrb, _⟩ := code_zero (bs := bs) hcz
    have hkn : k < n1 := by have := (List.getElem?_eq_some_iff.1 hrk).1; have := hln.out; omega
    have hki : (k : Int) < (n1 : Int) := by omega
    have hkk : ¬ (k : Int) < 0 := by omega
    obtain ⟨t, htk, htr⟩ := same_at (f := BkR.D) hd4.bs.D hrk
    have HRK : Hid (bs[k]? = some r ∧ chipOkB (bs.map BkR.D) = true ∧ codeE true (bs.map BkR.D) (k : Int) = 0) := ⟨hrk, hok, hcz⟩
    have HTK : Hid (qs[k]? = some t ∧ t.D = r.D) := ⟨htk, htr⟩
    obtain ⟨g, ha1⟩ : ∃ g, a1 = some ⟨g, 0, none⟩ := by
      rcases (show OwnE bkE 42 W4 (.slice a1 n1 c1) qs.length qs from hd4.bs.own.1).cases with ⟨_, _, h0⟩ | ⟨g, c, h0, _⟩
      · rw [h0] at htk; simp at htk
      · simp only [Value.slice.injEq] at h0; exact ⟨g, h0.1⟩
    subst ha1
    have hgX : g < X := hlt.out g (fpDv_bs (fpBs_row rfl))
    have hwr : IntKind.i64.wrap (ops + 1) = ops + 1 := wrap_small _ (by omega) (by omega)
    have hcF := faultAtS a n1 cap ops fa m fc fs false W4 (HT.out _ B4).2
    unfold FaA at hcF
    have h0 := zH4.cell 0
    have h1 := zH4.cell 1
    have h2 := zH4.cell 2
    have h3 := zH4.cell 3
    simp at h0 h1 h2 h3
    have HKP : Hid (∀ t, faD ops fs = some t → 0 ≤ t.kp ∧ t.kp ≤ 400) := fun t ht => by
      have h1 := hfok t (List.mem_of_find?_eq_some ht)
      unfold ftOk at h1
      simp at h1
      omega
    clear htk htr hrk hcz hdv hfok hok
    go_wp2_with fail
    refine hcF.mono ?_
    rintro e w5 ⟨rfl, b5⟩
    obtain ⟨o, hoo⟩ : ∃ o, faD ops fs = o := ⟨_, rfl⟩
    rw [hoo] at HGP HKP ⊢
    obtain ⟨ft, hft⟩ : ∃ t, (o.getD ftZ).tm = t := ⟨_, rfl⟩
    obtain ⟨fk, hfk⟩ : ∃ t, (o.getD ftZ).kd = t := ⟨_, rfl⟩
    obtain ⟨fp, hfp⟩ : ∃ t, (o.getD ftZ).kp = t := ⟨_, rfl⟩
    obtain ⟨bd, hbd⟩ : ∃ t, o.isSome = t := ⟨_, rfl⟩
    rw [hft, hfk, hfp, hbd]
    have HO : Hid (o = if bd then some ⟨ft, fk, fp⟩ else none) := by
      show _ = _
      subst hft hfk hfp hbd
      cases o <;> rfl
    have zT := Blk.new w5 51 #[.int .i64 ft, .int .i64 fk, .int .i64 fp]
    have b6 : Below w5.heap.size w5 (w5.alloc (.cells #[.int .i64 ft, .int .i64 fk, .int .i64 fp] 51)) := (Below.refl _ _).alloc (Nat.le_refl _) _
    have b46 := b5.trans (b6.mono b5.size)
    have hd6 := hd4.keep b46
    have zX6 := zX4.keep b46
    have zr6 := zr4.keep b46
    have zH6 := zH4.keep b46
    have B6 := B4.trans (b46.mono B4.size)
    have hXT : X < w5.heap.size := (zX4.keep b5).lt
    obtain ⟨T, hT⟩ : ∃ T, w5.heap.size = T := ⟨_, rfl⟩
    rw [hT] at zT hXT
    clear hcF h0 h1 h2 h3 hd4 zX4 zr4 zH4 B4 b5 hoo hft hfk hfp hbd
    go_upto_region 6 with fail
    obtain ⟨W6, hW6⟩ : ∃ W, w5.alloc (.cells #[.int .i64 ft, .int .i64 fk, .int .i64 fp] 51) = W := ⟨_, rfl⟩
    rw [hW6] at zT hd6 zX6 zr6 zH6 B6 ⊢
    try rw [hT]
    clear hW6 b6 b46 hT
    have u1 := zX6.cell 1
    have g1 := zX6.frozen 1
    have h1 := zH6.cell 1
    simp at u1 h1
    have zX7 := zX6.set 1 (.int .i64 (ops + 1))
    have hXn : w.heap.size ≤ X ∧ H + 1 < X := by have := HW.out; have := HH.out; omega
    have zr7 := zr6.other (B' := X) (by omega) 1 (.int .i64 (ops + 1))
    have zH7 := zH6.other (B' := X) (by omega) 1 (.int .i64 (ops + 1))
    have zT7 := zT.other (B' := X) (by omega) 1 (.int .i64 (ops + 1))
    have hd7 := hd6.svs (sv_one W6 X 1 (.int .i64 (ops + 1))) (fun j hj hf => by simp at hf; have := hlt.out j hj; omega)
    have B7 : Below W0.heap.size W0 (W6.setCell ⟨X, 1, none⟩ (.int .i64 (ops + 1))) := B6.setCell (p := ⟨X, 1, none⟩) hW1 _
    clear hd6 zX6 zr6 zH6 zT B6
    go_upto_region 7 with fail
    obtain ⟨W7, hW7⟩ : ∃ W, W6.setCell ⟨X, 1, none⟩ (.int .i64 (ops + 1)) = W := ⟨_, rfl⟩
    rw [hW7] at zX7 zr7 zH7 zT7 hd7 B7 ⊢
    clear hW7 u1 g1 h1
    simp at zX7
    have c1' := zT7.cell 1
    simp at c1'
    by_cases hbad : bd = true ∧ fk = 1
    · obtain ⟨rfl, rfl⟩ := hbad
      have hOw : OwnE bkE 42 W7 (.slice (some ⟨g, 0, none⟩) n1 c1) n1 qs := by have := hd7.bs.own.1; rw [hl] at this; exact this
      have v0 := hOw.cell k 2 t HTK.out.1 (by decide)
      have v1 : W7.cell? ⟨g, k * 3 + 2, none⟩ = some (.bool t.bad) := v0
      have vf := hOw.frozen (k * 3 + 2)
      have u0 := zX7.cell 0
      simp at u0
      have zX8 := zX7.other (B' := g) (by omega) (k * 3 + 2) (.bool true)
      have hHg : H + 1 < g := by have := hd7.bs.new g (fpBs_row rfl); have := HW.out; have := HH.out; omega
      have zr8 := zr7.other (B' := g) (by omega) (k * 3 + 2) (.bool true)
      have hd8 := hd7.bad hl HTK.out.1
      have B8 : Below W0.heap.size W0 (W7.setCell ⟨g, k * 3 + 2, none⟩ (.bool true)) := B7.setCell (p := ⟨g, k * 3 + 2, none⟩) (hd7.bs.new g (fpBs_row rfl)) _
      clear hOw v0 hd7 zX7 zr7 zH7 zT7 B7
      go_upto_region 9 with fail
      obtain ⟨W8, hW8⟩ : ∃ W, W7.setCell ⟨g, k * 3 + 2, none⟩ (.bool true) = W := ⟨_, rfl⟩
      rw [hW8] at zX8 zr8 hd8 B8 ⊢
      clear hW8 v1 vf u0 c1'
      have r0 := zr8.cell 0
      have r1 := zr8.cell 1
      have r2 := zr8.cell 2
      have r3 := zr8.cell 3
      have f0 := zr8.frozen 0
      have f1 := zr8.frozen 1
      have f2 := zr8.frozen 2
      have f3 := zr8.frozen 3
      have zf := (((zr8.set 0 (.slice (some ⟨g, 0, none⟩) n1 c1)).set 1 (.int .i64 (ops + 1))).set 2 (.slice fa1 m1 fc1)).set 3 (.bool false)
      have d0 := zf.cell 0
      have d1 := zf.cell 1
      have d2 := zf.cell 2
      have d3 := zf.cell 3
      have y0 := zX8.cell 0
      have y1 := zX8.cell 1
      have y2 := zX8.cell 2
      have y3 := zX8.cell 3
      simp at r0 r1 r2 r3 d0 d1 d2 d3 y0 y1 y2 y3
      have HN : Hid _ := And.intro hd8 (And.intro (show (qs.set k ⟨t.a, t.cap, t.ps, t.wear, true⟩).length = n1 by rw [List.length_set]; exact hl) B8)
      clear zf hd8 zX8 zr8 B8
      go_wp2
      refine bodyPost_ret (v := .tuple #[.agg #[.slice (some ⟨g, 0, none⟩) n1 c1, .int .i64 (ops + 1), .slice fa1 m1 fc1, .bool false], .int .i64 2]) (by simp [results, Tryz.f20, go_sem, d0, d1, d2, d3]) rfl ?_
      obtain ⟨hnd, hl, hbel⟩ := HN.out
      rw [← HGP.out]
      have hos := HO.out
      simp only [if_true] at hos
      have hbe : badD (bs.map BkR.D) (k : Int).toNat = (bs.map BkR.D).set k ⟨t.ps.map PgR.D, t.wear, true⟩ := by
        have h5 := HTK.out.2
        unfold BkR.D at h5
        simp only [BkD.mk.injEq] at h5
        unfold badD
        rw [Int.toNat_natCast, List.getElem?_map, HRK.out.1]
        simp only [Option.map_some, BkR.D]
        rw [h5.1, h5.2.1]
      rw [hos, show outDs 0 (some ⟨ft, 1, fp⟩) (bs.map BkR.D) (eraseAt (bs.map BkR.D) (k : Int).toNat) (badD (bs.map BkR.D) (k : Int).toNat) (tornD (bs.map BkR.D) (k : Int).toNat) = badD (bs.map BkR.D) (k : Int).toNat from rfl, hbe]
      have hH := HH.out
      have hw := HW.out
      have h1 : H + 1 < W0.heap.size := by omega
      have bel : Below w.heap.size w W8 := HB0.out.trans (hbel.mono HB0.out.size)
      have s : ∀ (W : World) (i : Nat) (v : Value), Below w.heap.size w W → Below w.heap.size w (W.setCell ⟨H + 1, i, none⟩ v) := fun W i v hb => hb.setCell (p := ⟨H + 1, i, none⟩) (by simp only; omega) v
      exact ⟨_, _, _, _, _, _, _, rfl, ((((hnd.set_below h1).set_below h1).set_below h1).set_below h1).wider HB0.out.size, hl, s _ _ _ (s _ _ _ (s _ _ _ (s _ _ _ bel)))⟩
    · cases bd with
      | false =>
        have hos := HO.out
        simp only [Bool.false_eq_true, if_false] at hos
        have HOS : Hid (o = none) := hos
        clear hos HO
        have h0 := zH7.cell 0
        simp at h0
        have hcR := eraseS a n1 cap bs (k : Int) W7 (HT.out _ B7).1
        rw [HRK.out.2.1, show eraseD true (bs.map BkR.D) (k : Int) = eraseAt (bs.map BkR.D) k from (by unfold eraseD; rw [HRK.out.2.2, if_pos rfl, Int.toNat_natCast]), HRK.out.2.2] at hcR
        have hTW : T < W7.heap.size := zT7.lt
        go_wp2_with fail
        refine hcR.mono ?_
        rintro e w8 ⟨aE, nE, cE, qE, rfl, hqE, hlE, b8⟩
        have hnE : nE = n1 := by
          have h5 : (eraseAt (bs.map BkR.D) k).length = n1 := by
            unfold eraseAt
            split
            · rw [List.length_set]; simp [hln.out]
            · simp [hln.out]
          rw [← hlE, hqE.len, h5]
        subst hnE
        have zX8 := zX7.keep b8
        have zr8 := zr7.keep b8
        have zT8 := zT7.keep b8
        have hd8 := hd7.chip b8 hqE B7.size
        have B8 := B7.trans (b8.mono B7.size)
        have u0 := zX8.cell 0
        have g0 := zX8.frozen 0
        simp at u0
        have zX9 := zX8.set 0 (.slice aE nE cE)
        have zr9 := zr8.other (B' := X) (by omega) 0 (.slice aE nE cE)
        have zT9 := zT8.other (B' := X) (by omega) 0 (.slice aE nE cE)
        have hd9 := hd8.svs (sv_one w8 X 0 (.slice aE nE cE)) (fun j hj hf => by
          simp at hf
          subst hf
          rcases List.mem_append.1 hj with h5 | h5
          · have := hqE.new j h5; omega
          · have := hlt.out j (List.mem_append_right _ h5); omega)
        have B9 : Below W0.heap.size W0 (w8.setCell ⟨X, 0, none⟩ (.slice aE nE cE)) := B8.setCell (p := ⟨X, 0, none⟩) hW1 _
        clear hcR zX7 zr7 zT7 zH7 hd7 B7 zX8 zr8 zT8 hd8 B8 h0
        go_upto_region 11 with fail
        obtain ⟨W9, hW9⟩ : ∃ W, w8.setCell ⟨X, 0, none⟩ (.slice aE nE cE) = W := ⟨_, rfl⟩
        rw [hW9] at zX9 zr9 zT9 hd9 B9 ⊢
        clear hW9 u0 g0
        simp at zX9
        have r0 := zr9.cell 0
        have r1 := zr9.cell 1
        have r2 := zr9.cell 2
        have r3 := zr9.cell 3
        have f0 := zr9.frozen 0
        have f1 := zr9.frozen 1
        have f2 := zr9.frozen 2
        have f3 := zr9.frozen 3
        have zf := (((zr9.set 0 (.slice aE nE cE)).set 1 (.int .i64 (ops + 1))).set 2 (.slice fa1 m1 fc1)).set 3 (.bool false)
        have d0 := zf.cell 0
        have d1 := zf.cell 1
        have d2 := zf.cell 2
        have d3 := zf.cell 3
        have y0 := zX9.cell 0
        have y1 := zX9.cell 1
        have y2 := zX9.cell 2
        have y3 := zX9.cell 3
        simp at r0 r1 r2 r3 d0 d1 d2 d3 y0 y1 y2 y3
        have HN : Hid _ := And.intro hd9 (And.intro hlE B9)
        clear zf hd9 zX9 zr9 zT9 B9 hqE hlE b8
        go_wp2
        refine bodyPost_ret (v := .tuple #[.agg #[.slice aE nE cE, .int .i64 (ops + 1), .slice fa1 m1 fc1, .bool false], .int .i64 0]) (by simp [results, Tryz.f20, go_sem, d0, d1, d2, d3]) rfl ?_
        obtain ⟨hnd, hl, hbel⟩ := HN.out
        rw [← HGP.out]
        rw [HOS.out, show outDs 0 none (bs.map BkR.D) (eraseAt (bs.map BkR.D) (k : Int).toNat) (badD (bs.map BkR.D) (k : Int).toNat) (tornD (bs.map BkR.D) (k : Int).toNat) = eraseAt (bs.map BkR.D) k from rfl]
        have hH := HH.out
        have hw := HW.out
        have h1 : H + 1 < W0.heap.size := by omega
        have bel : Below w.heap.size w W9 := HB0.out.trans (hbel.mono HB0.out.size)
        have s : ∀ (W : World) (i : Nat) (v : Value), Below w.heap.size w W → Below w.heap.size w (W.setCell ⟨H + 1, i, none⟩ v) := fun W i v hb => hb.setCell (p := ⟨H + 1, i, none⟩) (by simp only; omega) v
        exact ⟨_, _, _, _, _, _, _, rfl, ((((hnd.set_below h1).set_below h1).set_below h1).set_below h1).wider HB0.out.size, hl, s _ _ _ (s _ _ _ (s _ _ _ (s _ _ _ bel)))⟩
      | true =>
        have hfk : ¬ fk = 1 := fun h => hbad ⟨rfl, h⟩
        have hfkb : (fk == 1) = false := by simpa using hfk
        have hos := HO.out
        simp only [if_true] at hos
        have hkp := HKP.out _ hos
        dsimp only at hkp
        have HOS : Hid (o = some ⟨ft, fk, fp⟩ ∧ ¬ fk = 1) := ⟨hos, hfk⟩
        clear hos HO hfk
        have h0 := zH7.cell 0
        simp at h0
        have hcR := eraseS a n1 cap bs (k : Int) W7 (HT.out _ B7).1
        rw [HRK.out.2.1, show eraseD true (bs.map BkR.D) (k : Int) = eraseAt (bs.map BkR.D) k from (by unfold eraseD; rw [HRK.out.2.2, if_pos rfl, Int.toNat_natCast]), HRK.out.2.2] at hcR
        have hTW : T < W7.heap.size := zT7.lt
        go_wp2_with fail
        refine hcR.mono ?_
        rintro e w8 ⟨aE, nE, cE, qE, rfl, hqE, hlE, b8⟩
        have hnE : nE = n1 := by
          have h5 : (eraseAt (bs.map BkR.D) k).length = n1 := by
            unfold eraseAt
            split
            · rw [List.length_set]; simp [hln.out]
            · simp [hln.out]
          rw [← hlE, hqE.len, h5]
        subst hnE
        have zX8 := zX7.keep b8
        have zr8 := zr7.keep b8
        have zT8 := zT7.keep b8
        have hd8 := hd7.chip b8 hqE B7.size
        have B8 := B7.trans (b8.mono B7.size)
        have u0 := zX8.cell 0
        have g0 := zX8.frozen 0
        simp at u0
        have zX9 := zX8.set 0 (.slice aE nE cE)
        have zr9 := zr8.other (B' := X) (by omega) 0 (.slice aE nE cE)
        have zT9 := zT8.other (B' := X) (by omega) 0 (.slice aE nE cE)
        have hd9 := hd8.svs (sv_one w8 X 0 (.slice aE nE cE)) (fun j hj hf => by
          simp at hf
          subst hf
          rcases List.mem_append.1 hj with h5 | h5
          · have := hqE.new j h5; omega
          · have := hlt.out j (List.mem_append_right _ h5); omega)
        have B9 : Below W0.heap.size W0 (w8.setCell ⟨X, 0, none⟩ (.slice aE nE cE)) := B8.setCell (p := ⟨X, 0, none⟩) hW1 _
        clear hcR zX7 zr7 zT7 zH7 hd7 B7 zX8 zr8 zT8 hd8 B8 h0
        go_upto_region 11 with fail
        obtain ⟨W9, hW9⟩ : ∃ W, w8.setCell ⟨X, 0, none⟩ (.slice aE nE cE) = W := ⟨_, rfl⟩
        rw [hW9] at zX9 zr9 zT9 hd9 B9 ⊢
        clear hW9 u0 g0
        simp at zX9
        obtain ⟨q, rfl⟩ : ∃ q : Nat, fp = (q : Int) := ⟨fp.toNat, by omega⟩
        have hE0 : eraseAt (bs.map BkR.D) k = (bs.map BkR.D).set k ⟨(List.range 8).map fun i => (⟨decide (i < 0), []⟩ : PgD), r.wear + 1, r.bad⟩ := by
          unfold eraseAt
          rw [List.getElem?_map, HRK.out.1]
          rfl
        have hlb : k < (bs.map BkR.D).length := by simp [hln.out]; omega
        obtain ⟨b, hbk⟩ : ∃ b, qE[k]? = some b := ⟨_, List.getElem?_eq_getElem (by omega)⟩
        have hbD : b.D = ⟨(List.range 8).map fun i => (⟨decide (i < 0), []⟩ : PgD), r.wear + 1, r.bad⟩ := by
          have h5 := congrArg (fun l => l[k]?) hqE.D
          rw [hE0] at h5
          simp only [List.getElem?_map, hbk, Option.map_some, List.getElem?_set_self hlb, Option.some.injEq] at h5
          exact h5
        have hb8 : b.ps.length = 8 := by
          have h5 := congrArg (fun d => d.ps.length) hbD
          simpa [BkR.D] using h5
        obtain ⟨P, hbP⟩ : ∃ P, b.a = some ⟨P, 0, none⟩ := by
          rcases (show OwnE pgE 92 w8 (.slice b.a b.ps.length b.cap) b.ps.length b.ps from (hqE.own.2 b (List.mem_of_getElem? hbk)).1).cases with ⟨_, h5, _⟩ | ⟨P, c, h5, _⟩
          · omega
          · simp only [Value.slice.injEq] at h5; exact ⟨P, h5.1⟩
        obtain ⟨gE, haE⟩ : ∃ g, aE = some ⟨g, 0, none⟩ := by
          rcases (show OwnE bkE 42 w8 (.slice aE nE cE) qE.length qE from hqE.own.1).cases with ⟨_, _, h5⟩ | ⟨g, c, h5, _⟩
          · rw [h5] at hbk; simp at hbk
          · simp only [Value.slice.injEq] at h5; exact ⟨g, h5.1⟩
        subst haE
        have hPT : T < P := by
          have h5 := hqE.new P (fpBs_bk (List.mem_of_getElem? hbk) (fpPs_row (by unfold BkR.v; rw [hbP]; rfl)))
          omega
        rw [hE0] at hd9
        obtain ⟨cp, hcp⟩ : ∃ c, b.cap = c := ⟨_, rfl⟩
        have HST : Hid (∃ us b', NewDv W9 W0.heap.size (some ⟨gE, 0, none⟩) nE cE fa1 m1 fc1 ((bs.map BkR.D).set k ⟨(List.range 8).map fun i => (⟨decide (i < 0), []⟩ : PgD), r.wear + 1, r.bad⟩) fs us ∧ us.length = nE ∧ us[k]? = some b' ∧ b'.a = some ⟨P, 0, none⟩ ∧ b'.cap = cp ∧ b'.D = ⟨(List.range 8).map fun i => (⟨decide (i < 0), []⟩ : PgD), r.wear + 1, r.bad⟩ ∧ Blk W9 X 29 #[.slice (some ⟨gE, 0, none⟩) nE cE, .int .i64 (ops + 1), .slice fa1 m1 fc1, .bool false] ∧ Blk W9 T 51 #[.int .i64 ft, .int .i64 fk, .int .i64 (q : Int)] ∧ Blk W9 (H + 1) 29 #[.slice none 0 0, .int .i64 0, .slice none 0 0, .bool false] ∧ Below W0.heap.size W0 W9 ∧ X ∉ fpBs (.slice (some ⟨gE, 0, none⟩) nE cE) us) := ⟨qE, b, hd9, hlE, hbk, hbP, hcp, hbD, zX9, zT9, zr9, B9, fun hf => by have := hqE.new X hf; omega⟩
        clear hd9 hqE hlE b8 zX9 zT9 zr9 B9 hbk hbP hcp hbD hb8 hE0
        go_wp2
        go_loopw [10] (fun i wr => ∃ j : Nat, j ≤ 8 ∧ j ≤ q ∧ i = .int .i64 j ∧ Hid (∃ us b', NewDv wr W0.heap.size (some ⟨gE, 0, none⟩) nE cE fa1 m1 fc1 ((bs.map BkR.D).set k ⟨(List.range 8).map fun i => (⟨decide (i < j), []⟩ : PgD), r.wear + 1, r.bad⟩) fs us ∧ us.length = nE ∧ us[k]? = some b' ∧ b'.a = some ⟨P, 0, none⟩ ∧ b'.cap = cp ∧ b'.D = ⟨(List.range 8).map fun i => (⟨decide (i < j), []⟩ : PgD), r.wear + 1, r.bad⟩ ∧ Blk wr X 29 #[.slice (some ⟨gE, 0, none⟩) nE cE, .int .i64 (ops + 1), .slice fa1 m1 fc1, .bool false] ∧ Blk wr T 51 #[.int .i64 ft, .int .i64 fk, .int .i64 (q : Int)] ∧ Blk wr (H + 1) 29 #[.slice none 0 0, .int .i64 0, .slice none 0 0, .bool false] ∧ Below W0.heap.size W0 wr ∧ X ∉ fpBs (.slice (some ⟨gE, 0, none⟩) nE cE) us)) (fun i _ => 8 - (intOf i).toNat)
        case atStart => exact ⟨0, by omega, by omega, rfl, HST⟩
        case round =>
          obtain ⟨j, hj8, hjq, rfl, hst⟩ := hrel
          clear HST
          obtain ⟨us, b, hnd, hul, hub, hba, hbc, hbD, zx, zt, zr, bel, hXus⟩ := hst.out
          have t2 := zt.cell 2
          simp at t2
          by_cases hgo : j < 8 ∧ j < q
          · have hj8i : (j : Int) < 8 := by omega
            have hjqi : (j : Int) < (q : Int) := by omega
            have hb8 : b.ps.length = 8 := by
              have h5 := congrArg (fun d => d.ps.length) hbD
              simpa [BkR.D] using h5
            have hown : OwnE bkE 42 wr (.slice (some ⟨gE, 0, none⟩) nE cE) nE us := by have := hnd.bs.own.1; rw [hul] at this; exact this
            have hpow : OwnE pgE 92 wr (.slice (some ⟨P, 0, none⟩) 8 cp) 8 b.ps := by
              have := (hnd.bs.own.2 b (List.mem_of_getElem? hub)).1
              unfold BkR.v at this
              rw [hba, hbc, hb8] at this
              exact this
            have x0 := zx.cell 0
            simp at x0
            have v0 : wr.cell? ⟨gE, k * 3, none⟩ = some (.slice (some ⟨P, 0, none⟩) 8 cp) := by
              rw [show wr.cell? ⟨gE, k * 3, none⟩ = some (.slice b.a b.ps.length b.cap) from hown.cell k 0 b hub (by decide), hba, hb8, hbc]
            have bA : Below wr.heap.size wr (wr.alloc (.cells #[] 5)) := (Below.refl _ _).alloc (Nat.le_refl _) _
            have pA := hpow.keep bA
            obtain ⟨p, hp⟩ : ∃ p, b.ps[j]? = some p := ⟨_, List.getElem?_eq_getElem (by omega)⟩
            have w0' : (wr.alloc (.cells #[] 5)).cell? ⟨P, j * 2, none⟩ = some (.bool p.used) := pA.cell j 0 p hp (by decide)
            have w1' : (wr.alloc (.cells #[] 5)).cell? ⟨P, j * 2 + 1, none⟩ = some (.slice p.a p.zs.length p.cap) := pA.cell j 1 p hp (by decide)
            have q0 : (wr.alloc (.cells #[] 5)).frozen? ⟨P, j * 2, none⟩ = false := pA.frozen (j * 2)
            have q1 : (wr.alloc (.cells #[] 5)).frozen? ⟨P, j * 2 + 1, none⟩ = false := pA.frozen (j * 2 + 1)
            have hnw := hnd.page hul hub hba (q := j) (by omega) bA (zs := []) (nq := 0) rfl (OwnV.rowB ownV_fresh) (Nat.zero_le _) (fun i hi => by simp [Value.ownBlock] at hi; omega)
            have hps : b.ps.map PgR.D = (List.range 8).map fun i => (⟨decide (i < j), []⟩ : PgD) := congrArg BkD.ps hbD
            have hwr2 : b.wear = r.wear + 1 := congrArg BkD.wear hbD
            have hbb : b.bad = r.bad := congrArg BkD.bad hbD
            rw [List.set_set, hps, hwr2, hbb, pagesT_succ hgo.1] at hnw
            have zxA := ((zx.keep bA).other (B' := P) (by omega) (j * 2) (.bool true)).other (B' := P) (by omega) (j * 2 + 1) (.slice (some ⟨wr.heap.size, 0, none⟩) 0 0)
            have ztA := ((zt.keep bA).other (B' := P) (by omega) (j * 2) (.bool true)).other (B' := P) (by omega) (j * 2 + 1) (.slice (some ⟨wr.heap.size, 0, none⟩) 0 0)
            have zrA := ((zr.keep bA).other (B' := P) (by omega) (j * 2) (.bool true)).other (B' := P) (by omega) (j * 2 + 1) (.slice (some ⟨wr.heap.size, 0, none⟩) 0 0)
            have hPn : W0.heap.size ≤ P := by omega
            have hXn2 : X ∉ fpBs (.slice (some ⟨gE, 0, none⟩) nE cE) (us.set k ⟨b.a, b.cap, b.ps.set j ⟨true, some ⟨wr.heap.size, 0, none⟩, 0, []⟩, r.wear + 1, r.bad⟩) := fun hf => by
              rcases fp_pg (W := wr) hub hf with h5 | h5
              · exact hXus h5
              · have := zx.lt; omega
            have belA : Below W0.heap.size W0 (((wr.alloc (.cells #[] 5)).setCell ⟨P, j * 2, none⟩ (.bool true)).setCell ⟨P, j * 2 + 1, none⟩ (.slice (some ⟨wr.heap.size, 0, none⟩) 0 0)) := ((bel.trans (bA.mono bel.size)).setCell (p := ⟨P, j * 2, none⟩) hPn _).setCell (p := ⟨P, j * 2 + 1, none⟩) hPn _
            have HNX : Hid (∃ us b', NewDv (((wr.alloc (.cells #[] 5)).setCell ⟨P, j * 2, none⟩ (.bool true)).setCell ⟨P, j * 2 + 1, none⟩ (.slice (some ⟨wr.heap.size, 0, none⟩) 0 0)) W0.heap.size (some ⟨gE, 0, none⟩) nE cE fa1 m1 fc1 ((bs.map BkR.D).set k ⟨(List.range 8).map fun i => (⟨decide (i < j + 1), []⟩ : PgD), r.wear + 1, r.bad⟩) fs us ∧ us.length = nE ∧ us[k]? = some b' ∧ b'.a = some ⟨P, 0, none⟩ ∧ b'.cap = cp ∧ b'.D = ⟨(List.range 8).map fun i => (⟨decide (i < j + 1), []⟩ : PgD), r.wear + 1, r.bad⟩ ∧ Blk (((wr.alloc (.cells #[] 5)).setCell ⟨P, j * 2, none⟩ (.bool true)).setCell ⟨P, j * 2 + 1, none⟩ (.slice (some ⟨wr.heap.size, 0, none⟩) 0 0)) X 29 #[.slice (some ⟨gE, 0, none⟩) nE cE, .int .i64 (ops + 1), .slice fa1 m1 fc1, .bool false] ∧ Blk (((wr.alloc (.cells #[] 5)).setCell ⟨P, j * 2, none⟩ (.bool true)).setCell ⟨P, j * 2 + 1, none⟩ (.slice (some ⟨wr.heap.size, 0, none⟩) 0 0)) T 51 #[.int .i64 ft, .int .i64 fk, .int .i64 (q : Int)] ∧ Blk (((wr.alloc (.cells #[] 5)).setCell ⟨P, j * 2, none⟩ (.bool true)).setCell ⟨P, j * 2 + 1, none⟩ (.slice (some ⟨wr.heap.size, 0, none⟩) 0 0)) (H + 1) 29 #[.slice none 0 0, .int .i64 0, .slice none 0 0, .bool false] ∧ Below W0.heap.size W0 (((wr.alloc (.cells #[] 5)).setCell ⟨P, j * 2, none⟩ (.bool true)).setCell ⟨P, j * 2 + 1, none⟩ (.slice (some ⟨wr.heap.size, 0, none⟩) 0 0)) ∧ X ∉ fpBs (.slice (some ⟨gE, 0, none⟩) nE cE) us) := by
              refine ⟨_, _, hnw, by rw [List.length_set]; exact hul, get_set hub, hba, hbc, ?_, zxA, ztA, zrA, belA, hXn2⟩
              show BkD.mk ((b.ps.set j ⟨true, some ⟨wr.heap.size, 0, none⟩, 0, []⟩).map PgR.D) _ _ = _
              rw [List.map_set, hps]
              rw [show PgR.D ⟨true, some ⟨wr.heap.size, 0, none⟩, 0, []⟩ = ⟨true, []⟩ from rfl, pagesT_succ hgo.1]
            clear hnw zxA ztA zrA belA hps hwr2 hbb pA hp hown hpow hnd hub hba hbc hbD zx zt zr bel bA hul hb8 hst
            go_wp2
            go_roundw
            case rel => exact ⟨j + 1, by omega, by omega, by go_num, HNX⟩
            case measure => simp [intOf]; omega
          · have hjM : j = min q 8 := by omega
            have x3 := zx.cell 3
            have g3 := zx.frozen 3
            simp at x3
            have zx2 := zx.set 3 (.bool true)
            have zr2 := zr.other (B' := X) (by omega) 3 (.bool true)
            have hlt2 : ∀ i ∈ fpDv (some ⟨gE, 0, none⟩) nE cE fa1 m1 fc1 us, i ≠ X := fun i hi e => by
              subst e
              rcases List.mem_append.1 hi with h5 | h5
              · exact hXus h5
              · have := hlt.out i (List.mem_append_right _ h5); omega
            have hnd2 := hnd.svs (sv_one wr X 3 (.bool true)) (fun i hi hf => by simp at hf; exact hlt2 i hi hf)
            have bel2 : Below W0.heap.size W0 (wr.setCell ⟨X, 3, none⟩ (.bool true)) := bel.setCell (p := ⟨X, 3, none⟩) hW1 _
            have HJ : Hid (j = min q 8) := hjM
            simp at zx2
            clear hst hnd hub hba hbc hbD zx zt zr bel hjM hlt2
            by_cases hj : j < 8
            · have hj8i : (j : Int) < 8 := by omega
              have hjqi : ¬ (j : Int) < (q : Int) := by omega
              go_upto_region 18 with fail
              obtain ⟨W10, hW10⟩ : ∃ W, wr.setCell ⟨X, 3, none⟩ (.bool true) = W := ⟨_, rfl⟩
              rw [hW10] at zx2 zr2 hnd2 bel2 ⊢
              clear hW10 t2 x3 g3
              have r0 := zr2.cell 0
              have r1 := zr2.cell 1
              have r2 := zr2.cell 2
              have r3 := zr2.cell 3
              have f0 := zr2.frozen 0
              have f1 := zr2.frozen 1
              have f2 := zr2.frozen 2
              have f3 := zr2.frozen 3
              have zf := (((zr2.set 0 (.slice (some ⟨gE, 0, none⟩) nE cE)).set 1 (.int .i64 (ops + 1))).set 2 (.slice fa1 m1 fc1)).set 3 (.bool true)
              have d0 := zf.cell 0
              have d1 := zf.cell 1
              have d2 := zf.cell 2
              have d3 := zf.cell 3
              have y0 := zx2.cell 0
              have y1 := zx2.cell 1
              have y2 := zx2.cell 2
              have y3 := zx2.cell 3
              simp at r0 r1 r2 r3 d0 d1 d2 d3 y0 y1 y2 y3
              have HN : Hid _ := And.intro hnd2 (And.intro hul bel2)
              clear zf hnd2 zx2 zr2 bel2 hul
              go_wp2
              refine bodyPost_ret (v := .tuple #[.agg #[.slice (some ⟨gE, 0, none⟩) nE cE, .int .i64 (ops + 1), .slice fa1 m1 fc1, .bool true], .int .i64 10]) (by simp [results, Tryz.f20, go_sem, d0, d1, d2, d3]) rfl ?_
              obtain ⟨hnd, hl, hbel⟩ := HN.out
              rw [← HGP.out]
              obtain ⟨e1, e2⟩ := HOS.out
              have hj := HJ.out
              have hto : outDs 0 (some ⟨ft, fk, (q : Int)⟩) (bs.map BkR.D) (eraseAt (bs.map BkR.D) (k : Int).toNat) (badD (bs.map BkR.D) (k : Int).toNat) (tornD (bs.map BkR.D) (k : Int).toNat) = (bs.map BkR.D).set k ⟨(List.range 8).map fun i => (⟨decide (i < j), []⟩ : PgD), r.wear + 1, r.bad⟩ := by
                unfold outDs
                rw [if_pos rfl]
                dsimp only
                rw [if_neg e2]
                unfold tornD
                rw [Int.toNat_natCast, List.getElem?_map, HRK.out.1, hj]
                rfl
              rw [e1, hto, show outDown 0 (some ⟨ft, fk, (q : Int)⟩) false = true from (by unfold outDown; rw [if_pos rfl]; dsimp only; rw [if_neg e2]), show outCode 0 (some ⟨ft, fk, (q : Int)⟩) = 10 from (by unfold outCode; rw [if_pos rfl]; dsimp only; rw [if_neg e2])]
              have hH := HH.out
              have hw := HW.out
              have h1 : H + 1 < W0.heap.size := by omega
              have bel : Below w.heap.size w W10 := HB0.out.trans (hbel.mono HB0.out.size)
              have s : ∀ (W : World) (i : Nat) (v : Value), Below w.heap.size w W → Below w.heap.size w (W.setCell ⟨H + 1, i, none⟩ v) := fun W i v hb => hb.setCell (p := ⟨H + 1, i, none⟩) (by simp only; omega) v
              exact ⟨_, _, _, _, _, _, _, rfl, ((((hnd.set_below h1).set_below h1).set_below h1).set_below h1).wider HB0.out.size, hl, s _ _ _ (s _ _ _ (s _ _ _ (s _ _ _ bel)))⟩
            · have hj8i : ¬ (j : Int) < 8 := by omega
              go_upto_region 18 with fail
              obtain ⟨W10, hW10⟩ : ∃ W, wr.setCell ⟨X, 3, none⟩ (.bool true) = W := ⟨_, rfl⟩
              rw [hW10] at zx2 zr2 hnd2 bel2 ⊢
              clear hW10 t2 x3 g3
              have r0 := zr2.cell 0
              have r1 := zr2.cell 1
              have r2 := zr2.cell 2
              have r3 := zr2.cell 3
              have f0 := zr2.frozen 0
              have f1 := zr2.frozen 1
              have f2 := zr2.frozen 2
              have f3 := zr2.frozen 3
              have zf := (((zr2.set 0 (.slice (some ⟨gE, 0, none⟩) nE cE)).set 1 (.int .i64 (ops + 1))).set 2 (.slice fa1 m1 fc1)).set 3 (.bool true)
              have d0 := zf.cell 0
              have d1 := zf.cell 1
              have d2 := zf.cell 2
              have d3 := zf.cell 3
              have y0 := zx2.cell 0
              have y1 := zx2.cell 1
              have y2 := zx2.cell 2
              have y3 := zx2.cell 3
              simp at r0 r1 r2 r3 d0 d1 d2 d3 y0 y1 y2 y3
              have HN : Hid _ := And.intro hnd2 (And.intro hul bel2)
              clear zf hnd2 zx2 zr2 bel2 hul
              go_wp2
              refine bodyPost_ret (v := .tuple #[.agg #[.slice (some ⟨gE, 0, none⟩) nE cE, .int .i64 (ops + 1), .slice fa1 m1 fc1, .bool true], .int .i64 10]) (by simp [results, Tryz.f20, go_sem, d0, d1, d2, d3]) rfl ?_
              obtain ⟨hnd, hl, hbel⟩ := HN.out
              rw [← HGP.out]
              obtain ⟨e1, e2⟩ := HOS.out
              have hj := HJ.out
              have hto : outDs 0 (some ⟨ft, fk, (q : Int)⟩) (bs.map BkR.D) (eraseAt (bs.map BkR.D) (k : Int).toNat) (badD (bs.map BkR.D) (k : Int).toNat) (tornD (bs.map BkR.D) (k : Int).toNat) = (bs.map BkR.D).set k ⟨(List.range 8).map fun i => (⟨decide (i < j), []⟩ : PgD), r.wear + 1, r.bad⟩ := by
                unfold outDs
                rw [if_pos rfl]
                dsimp only
                rw [if_neg e2]
                unfold tornD
                rw [Int.toNat_natCast, List.getElem?_map, HRK.out.1, hj]
                rfl
              rw [e1, hto, show outDown 0 (some ⟨ft, fk, (q : Int)⟩) false = true from (by unfold outDown; rw [if_pos rfl]; dsimp only; rw [if_neg e2]), show outCode 0 (some ⟨ft, fk, (q : Int)⟩) = 10 from (by unfold outCode; rw [if_pos rfl]; dsimp only; rw [if_neg e2])]
              have hH := HH.out
              have hw := HW.out
              have h1 : H + 1 < W0.heap.size := by omega
              have bel : Below w.heap.size w W10 := HB0.out.trans (hbel.mono HB0.out.size)
              have s : ∀ (W : World) (i : Nat) (v : Value), Below w.heap.size w W → Below w.heap.size w (W.setCell ⟨H + 1, i, none⟩ v) := fun W i v hb => hb.setCell (p := ⟨H + 1, i, none⟩) (by simp only; omega) v
              exact ⟨_, _, _, _, _, _, _, rfl, ((((hnd.set_below h1).set_below h1).set_below h1).set_below h1).wider HB0.out.size, hl, s _ _ _ (s _ _ _ (s _ _ _ (s _ _ _ bel)))⟩
  · have hcn : (CD != 0) = true := by simp [hc0]
    have r0 := zr4.cell 0
    have r1 := zr4.cell 1
    have r2 := zr4.cell 2
    have r3 := zr4.cell 3
    have f0 := zr4.frozen 0
    have f1 := zr4.frozen 1
    have f2 := zr4.frozen 2
    have f3 := zr4.frozen 3
    have zf := (((zr4.set 0 (.slice a1 n1 c1)).set 1 (.int .i64 ops)).set 2 (.slice fa1 m1 fc1)).set 3 (.bool down)
    have d0 := zf.cell 0
    have d1 := zf.cell 1
    have d2 := zf.cell 2
    have d3 := zf.cell 3
    have y0 := zX4.cell 0
    have y1 := zX4.cell 1
    have y2 := zX4.cell 2
    have y3 := zX4.cell 3
    simp at r0 r1 r2 r3 d0 d1 d2 d3 y0 y1 y2 y3
    have HN : Hid _ := And.intro hd4 (And.intro hl B4)
    clear zf hd4 zX4 zr4 zH4 B4
    go_wp2
    refine bodyPost_ret (v := .tuple #[.agg #[.slice a1 n1 c1, .int .i64 ops, .slice fa1 m1 fc1, .bool down], .int .i64 CD]) (by simp [results, Tryz.f20, go_sem, d0, d1, d2, d3]) rfl ?_
    obtain ⟨hnd, hl, hbel⟩ := HN.out
    rw [← HGP.out]
    rw [outs_no rfl hc0]
    have hH := HH.out
    have hw := HW.out
    have h1 : H + 1 < W0.heap.size := by omega
    have bel : Below w.heap.size w W4 := HB0.out.trans (hbel.mono HB0.out.size)
    have s : ∀ (W : World) (i : Nat) (v : Value), Below w.heap.size w W → Below w.heap.size w (W.setCell ⟨H + 1, i, none⟩ v) := fun W i v hb => hb.setCell (p := ⟨H + 1, i, none⟩) (by simp only; omega) v
    exact ⟨_, _, _, _, _, _, _, rfl, ((((hnd.set_below h1).set_below h1).set_below h1).set_below h1).wider HB0.out.size, hl, s _ _ _ (s _ _ _ (s _ _ _ (s _ _ _ bel)))⟩
end

section
open Go.RowKit
section
variable {w W W' : World} {gc sn scap : Nat} {sa : Option Addr} {zs : List Int} {X : Nat} {xs : Array Value} {v1 : Value} {dz : List Int} {v2 : Value} {es : List (ByteArray × Int)} {v3 : Value} {ats : List (ByteArray × ByteArray)}
end
theorem row_down {B B' : Nat} {w : World} {e : TypeId} {s n : Nat} {v : Value} {xs : List Value} (h : w.ownsRow B e s v n xs) (hB : B' ≤ B) : w.ownsRow B' e s v n xs :=
  ⟨h.1, h.2.imp id (fun ⟨g, c, cur, h1, h2, rest⟩ => ⟨g, c, cur, h1, Nat.le_trans hB h2, rest⟩)⟩
end

section
open Go.RowKit
theorem ok_bad {ds : List BkD} (h : ChOk ds) (k : Nat) : ChOk (badD ds k) := by
  unfold badD
  split
  · rename_i b hb
    have hok := h.2.2 b (List.mem_of_getElem? hb)
    exact ok_set h ⟨hok.1, hok.2.1, hok.2.2.1, hok.2.2.2⟩
  · exact h
theorem next_range (n m : Nat) : nextP ((List.range n).map fun i => (⟨decide (i < m), []⟩ : PgD)) = min m n := by
  induction n with
  | zero => simp [nextP]
  | succ n ih =>
    unfold nextP at ih ⊢
    rw [List.range_succ, List.map_append, List.filter_append, List.length_append, ih]
    by_cases h : n < m
    · simp [h]; omega
    · simp [h]; omega
theorem ok_torn {ds : List BkD} (h : ChOk ds) (x : Int) (kp : Int) (hc : codeE true ds x = 0) : ChOk (tornD ds x.toNat kp) := by
  unfold codeE mayD at hc
  split at hc
  · omega
  · rename_i hx
    obtain ⟨k, rfl⟩ : ∃ k : Nat, x = (k : Int) := ⟨x.toNat, by omega⟩
    split at hc
    · omega
    · split at hc
      · omega
      · rename_i hw
        unfold tornD
        split
        · rename_i b hb
          rw [Int.toNat_natCast] at hb ⊢
          have hok := h.2.2 b (List.mem_of_getElem? hb)
          have hww : b.wear < 100000 := by
            unfold wornAt at hw
            simp [hb] at hw
            exact hw
          refine ok_set h ⟨by simp, by have := hok.2.1; dsimp only; omega, by dsimp only; omega, fun i p hp => ?_⟩
          have hp' : ((List.range 8).map fun i => (⟨decide (i < min kp.toNat 8), []⟩ : PgD))[i]? = some p := hp
          have hn : nextP ((List.range 8).map fun i => (⟨decide (i < min kp.toNat 8), []⟩ : PgD)) = min (min kp.toNat 8) 8 := next_range 8 _
          rw [List.getElem?_map] at hp'
          by_cases h8 : i < 8
          · rw [List.getElem?_range h8] at hp'
            simp only [Option.map_some, Option.some.injEq] at hp'
            subst hp'
            refine ⟨by simp [pgOk], ?_⟩
            show decide (i < min kp.toNat 8) = decide (i < nextP _)
            rw [hn]
            congr 1
            simp
          · rw [List.getElem?_eq_none (by simp; omega)] at hp'
            simp at hp'
        · exact h
theorem ok_progAt {ds : List BkD} (h : ChOk ds) {x : Int} {nb : Nat} (hc : codeP true ds x nb = 0) {zs : List Int} (hz : zs.length ≤ nb) : ChOk (progAt ds x.toNat zs) := by
  have h1 : codeP true ds x zs.length = 0 := by
    unfold codeP at hc ⊢
    split at hc
    · omega
    · rw [if_neg (by omega)]; exact hc
  have := ok_prog h x zs
  unfold programD at this
  rw [if_pos h1] at this
  exact this
theorem ok_eraseAt {ds : List BkD} (h : ChOk ds) {x : Int} (hc : codeE true ds x = 0) : ChOk (eraseAt ds x.toNat) := by
  have := ok_erase h x
  unfold eraseD at this
  rw [if_pos hc] at this
  exact this
/-- What an operation of a device leaves is right where each of its answers is. -/
theorem out_keep {ds a b : List BkD} {t : Int → List BkD} {ops : Int} {fs : List FtD} {down : Bool} {c : Int} {o : Option FtD} (h : devB ds ops fs = true) (ha : c = 0 → ChOk a) (hb : c = 0 → ChOk b) (ht : c = 0 → ∀ k, ChOk (t k)) : devB (outDs (evCode ds ops fs down c) o ds a b t) (outOps (evCode ds ops fs down c) ops) fs = true := by
  obtain ⟨h1, h2, h3⟩ := devB_parts.1 h
  by_cases hc : evCode ds ops fs down c = 0
  · have h4 : c = 0 ∧ ops < 100000 := by
      unfold evCode at hc
      rw [if_neg (by rw [h]; simp)] at hc
      split at hc
      · omega
      · rename_i h5
        exact ⟨hc, by omega⟩
    unfold outDs outOps
    rw [if_pos hc, if_pos hc]
    refine devB_parts.2 ⟨?_, by omega, h3⟩
    split
    · exact ha h4.1
    · split
      · exact hb h4.1
      · exact ht h4.1 _
  · unfold outDs outOps
    rw [if_neg hc, if_neg hc]
    exact h
theorem prog_keep {ds : List BkD} {ops : Int} {fs : List FtD} {down : Bool} {x : Int} {nb : Nat} {zs : List Int} (hz : zs.length = nb) (h : devB ds ops fs = true) : devB (outDs (evCode ds ops fs down (codeP true ds x nb)) (faD ops fs) ds (progAt ds x.toNat zs) (badD ds x.toNat) (fun t => progAt ds x.toNat (zs.take t.toNat))) (outOps (evCode ds ops fs down (codeP true ds x nb)) ops) fs = true :=
  have h1 := (devB_parts.1 h).1
  out_keep h (fun hc => ok_progAt h1 hc (by omega)) (fun _ => ok_bad h1 _) (fun hc k => ok_progAt h1 hc (by rw [List.length_take]; omega))
theorem erase_keep {ds : List BkD} {ops : Int} {fs : List FtD} {down : Bool} {x : Int} (h : devB ds ops fs = true) : devB (outDs (evCode ds ops fs down (codeE true ds x)) (faD ops fs) ds (eraseAt ds x.toNat) (badD ds x.toNat) (tornD ds x.toNat)) (outOps (evCode ds ops fs down (codeE true ds x)) ops) fs = true :=
  have h1 := (devB_parts.1 h).1
  out_keep h (fun hc => ok_eraseAt h1 hc) (fun _ => ok_bad h1 _) (fun hc k => ok_torn h1 x k hc)
end

section
open Go.RowKit
theorem bytC_erase {ds : List BkD} (h : BytC ds) (k : Nat) : BytC (eraseAt ds k) := by
  unfold eraseAt
  split
  · refine bytC_set h fun p hp => ?_
    have := List.eq_of_mem_replicate hp
    subst this
    exact byt_nil'
  · exact h
theorem bytC_torn {ds : List BkD} (h : BytC ds) (k : Nat) (kp : Int) : BytC (tornD ds k kp) := by
  unfold tornD
  split
  · refine bytC_set h fun p hp => ?_
    obtain ⟨i, _, rfl⟩ := List.mem_map.1 hp
    exact byt_nil'
  · exact h
end

section
open Go.RowKit
/-- A drawn chip in its box X. -/
structure DC (w0 wr : World) (X : Nat) (ds : List BkD) (va : Option Addr) (vn vc : Nat) (qs : List BkR) : Prop where
  bs : NewBs wr w0.heap.size (.slice va vn vc) ds qs
  n : qs.length = vn
  ok : ChOk ds
  x : Blk wr X 26 #[.slice va vn vc]
  xf : X ∉ fpBs (.slice va vn vc) qs
  xn : w0.heap.size ≤ X
theorem DC.svs {w0 wr w' : World} {X g : Nat} {ds : List BkD} {va : Option Addr} {vn vc : Nat} {qs : List BkR} (h : DC w0 wr X ds va vn vc qs) (hs : Sv [g] wr w') (hg : g < w0.heap.size) : DC w0 w' X ds va vn vc qs :=
  ⟨h.bs.svs hs (fun j hj hf => by have := h.bs.new j hj; simp at hf; omega), h.n, h.ok, Blk.svs h.x hs (by have := h.xn; simp; omega), h.xf, h.xn⟩
theorem DC.keep {w0 wr w' : World} {X : Nat} {ds : List BkD} {va : Option Addr} {vn vc : Nat} {qs : List BkR} (h : DC w0 wr X ds va vn vc qs) (hb : Below wr.heap.size wr w') : DC w0 w' X ds va vn vc qs := ⟨h.bs.keep hb, h.n, h.ok, h.x.keep hb, h.xf, h.xn⟩
theorem DC.len {w0 wr : World} {X : Nat} {ds : List BkD} {va : Option Addr} {vn vc : Nat} {qs : List BkR} (h : DC w0 wr X ds va vn vc qs) : ds.length = vn := by rw [← h.bs.len, h.n]
theorem DC.cr {w0 wr : World} {X : Nat} {ds : List BkD} {va : Option Addr} {vn vc : Nat} {qs : List BkR} (h : DC w0 wr X ds va vn vc qs) : CR wr va vn qs := ⟨h.n, by rw [h.bs.D]; exact ok_tot h.ok, h.bs.rd⟩
theorem DC.some {w0 wr : World} {X : Nat} {ds : List BkD} {va : Option Addr} {vn vc : Nat} {qs : List BkR} (h : DC w0 wr X ds va vn vc qs) : ∃ g, va = .some ⟨g, 0, none⟩ := by
  rcases (show OwnE bkE 42 wr (.slice va vn vc) qs.length qs from h.bs.own.1).cases with ⟨_, _, h0⟩ | ⟨g, c, h0, _⟩
  · have := h.len
    have h1 := h.ok.1
    have h2 := h.n
    rw [h0] at h2
    simp at h2
    omega
  · simp only [Value.slice.injEq] at h0
    exact ⟨g, h0.1⟩
/-- The cells of the block k. -/
theorem DC.bk {w0 wr : World} {X g : Nat} {ds : List BkD} {vn vc : Nat} {qs : List BkR} (h : DC w0 wr X ds (Option.some ⟨g, 0, none⟩) vn vc qs) (k : Nat) (hk : k < vn) : ∃ b, qs[k]? = Option.some b ∧ wr.cell? ⟨g, k * 3 + 2, none⟩ = Option.some (.bool b.bad) ∧ wr.frozen? ⟨g, k * 3 + 2, none⟩ = false ∧ wr.cell? ⟨X, 0, none⟩ = Option.some (.slice (Option.some ⟨g, 0, none⟩) vn vc) := by
  have hOw : OwnE bkE 42 wr (.slice (Option.some ⟨g, 0, none⟩) vn vc) vn qs := by
    have := h.bs.own.1
    rw [h.n] at this
    exact this
  have x0 := h.x.cell 0
  simp at x0
  exact ⟨_, List.getElem?_eq_getElem (by have := h.n; omega), hOw.cell k 2 _ (List.getElem?_eq_getElem (by have := h.n; omega)) (by decide), hOw.frozen (k * 3 + 2), x0⟩
/-- Another chip was stored in its place. -/
theorem DC.put {w0 wr w' : World} {X : Nat} {ds ds' : List BkD} {va va' : Option Addr} {vn vc vn' vc' : Nat} {qs qs' : List BkR} (h : DC w0 wr X ds va vn vc qs) (hb : Below wr.heap.size wr w') (hq : NewBs w' wr.heap.size (.slice va' vn' vc') ds' qs') (hn : qs'.length = vn') (hok : ChOk ds') : DC w0 (w'.setCell ⟨X, 0, none⟩ (.slice va' vn' vc')) X ds' va' vn' vc' qs' := by
  have hX := h.x.lt
  have hnX : X ∉ fpBs (.slice va' vn' vc') qs' := fun hf => by have := hq.new X hf; omega
  have hw : w0.heap.size ≤ wr.heap.size := by have := h.xn; omega
  exact ⟨(hq.set_below hX).wider hw, hn, hok, by have := (h.x.keep hb).set 0 (.slice va' vn' vc'); simpa using this, hnX, h.xn⟩
end

section
open Go.RowKit
/-- A device was drawn: it is right, in memory of its own. -/
def P11 (w : World) (gc n cap : Nat) (a : Option Addr) (zs : List Int) (e : Ending) (w' : World) : Prop := ∃ (D : DvD) (va : Option Addr) (vn vc : Nat) (fa : Option Addr) (m fc : Nat) (qs : List BkR), e = .returned (.agg #[.slice va vn vc, .int .i64 D.ops, .slice fa m fc, .bool D.down]) ∧ NewDv w' w.heap.size va vn vc fa m fc D.ds D.fs qs ∧ qs.length = vn ∧ devB D.ds D.ops D.fs = true ∧ BytC D.ds ∧ Src w' gc n cap a zs ∧ Sv [gc] w w'
def EX11 (w W : World) (gc n cap : Nat) (a : Option Addr) (zs : List Int) (X : Nat) : Prop := ∃ (D : DvD) (va : Option Addr) (vn vc : Nat) (fa : Option Addr) (m fc : Nat) (qs : List BkR), XL w W gc n cap a zs X 29 #[.slice none 0 0, .int .i64 0, .slice none 0 0, .bool false] #[.slice va vn vc, .int .i64 D.ops, .slice fa m fc, .bool D.down] D va vn vc fa m fc qs
theorem Blk.dev {W : World} {B : Nat} {t : TypeId} {v0 v1 v2 v3 : Value} (h : Blk W B t #[v0, v1, v2, v3]) : W.cell? ⟨B, 0, none⟩ = some v0 ∧ W.cell? ⟨B, 1, none⟩ = some v1 ∧ W.cell? ⟨B, 2, none⟩ = some v2 ∧ W.cell? ⟨B, 3, none⟩ = some v3 := ⟨h.cell 0, h.cell 1, h.cell 2, h.cell 3⟩
theorem Own.capE {w : World} {g n c : Nat} {zs : List Int} (h : Own w g n c zs) : n ≤ c := by
  rcases h.2 with ⟨h', _⟩ | ⟨g', cap', cur, h', _, _, hc, _⟩
  · simp at h'
  · simp only [Value.slice.injEq, Option.some.injEq, Addr.mk.injEq, and_true, true_and] at h'
    omega
/-- An operation of the device was done: the box holds what it answered. -/
theorem XL.did {W' : World} {w W : World} {gc n cap : Nat} {a : Option Addr} {zs : List Int} {X : Nat} {Zs : Array Value} {D D' : DvD} {va va' : Option Addr} {vn vc vn' vc' : Nat} {fa fa' : Option Addr} {m fc m' fc' : Nat} {qs qs' : List BkR} {v0 v1 v2 v3 : Value} (h : XL w W gc n cap a zs X 29 Zs #[v0, v1, v2, v3] D va vn vc fa m fc qs) (hb : Below W.heap.size W W') (hn : NewDv W' W.heap.size va' vn' vc' fa' m' fc' D'.ds D'.fs qs') (hl : qs'.length = vn') (hok : devB D'.ds D'.ops D'.fs = true) (hbt : BytC D'.ds) :
    XL w ((((W'.setCell ⟨X, 0, none⟩ (.slice va' vn' vc')).setCell ⟨X, 1, none⟩ (.int .i64 D'.ops)).setCell ⟨X, 2, none⟩ (.slice fa' m' fc')).setCell ⟨X, 3, none⟩ (.bool D'.down)) gc n cap a zs X 29 Zs #[.slice va' vn' vc', .int .i64 D'.ops, .slice fa' m' fc', .bool D'.down] D' va' vn' vc' fa' m' fc' qs' :=
  ((((h.new hb hn hl hok hbt).setX 0 (.slice va' vn' vc')).setX 1 (.int .i64 D'.ops)).setX 2 (.slice fa' m' fc')).setX 3 (.bool D'.down)
set_option maxRecDepth 100000 in
set_option maxHeartbeats 16000000 in
theorem l11DrawS (gc n cap : Nat) (a : Option Addr) (zs : List Int) (w : World) (h : Src w gc n cap a zs) :
    Calls Tryz.prog 90 #[.pointer (some ⟨gc, 0, none⟩)] w (P11 w gc n cap a zs) := by
  have hgc := h.cur.lt
  have B0 : Below w.heap.size w (w.alloc (.cells #[.slice none 0 0, .int .i64 0, .slice none 0 0, .bool false] 29)) := (Below.refl _ w).alloc (Nat.le_refl _) _
  have z0 := Blk.new w 29 #[.slice none 0 0, .int .i64 0, .slice none 0 0, .bool false]
  have h0 := h.keep B0
  have hsz0 : (w.alloc (.cells #[.slice none 0 0, .int .i64 0, .slice none 0 0, .bool false] 29)).heap.size = w.heap.size + 1 := by simp
  generalize hGP : P11 w gc n cap a zs = P
  have HGP : Hid _ := hGP
  clear hGP h
  go_enter Tryz.func90, Tryz.ntmps90
  go_wp2_with fail
  obtain ⟨W0, hW0⟩ : ∃ W, w.alloc (.cells #[.slice none 0 0, .int .i64 0, .slice none 0 0, .bool false] 29) = W := ⟨_, rfl⟩
  rw [hW0] at B0 z0 h0 hsz0 ⊢
  clear hW0
  refine (below_step gc n cap a zs 3 W0 h0 (by omega) (by omega)).mono ?_
  rintro e w1 ⟨y, rfl, hy, h1, gr1⟩
  have sv1 := sv_grown gr1
  have z1 := Blk.svs z0 sv1 (by simp; omega)
  have hg1 := gr1.size
  have hwy : IntKind.i64.wrap (3 + (y : Int)) = 3 + (y : Int) := wrap_small _ (by omega) (by omega)
  have SV1 := (Below.sv B0 [gc]).trans sv1
  clear h0 z0 gr1 sv1
  go_wp2_with fail
  refine (l11FaultListS gc n cap a zs w1 h1).mono ?_
  rintro e w2 ⟨v, fs, rfl, hfl, hfb, hfo, h2, gr2⟩
  have sv2 := sv_grown gr2
  have z2 := Blk.svs z1 sv2 (by simp; omega)
  have hg2 := gr2.size
  have SV2 := SV1.trans sv2
  obtain ⟨fa, fc, rfl⟩ : ∃ fa fc, v = .slice fa fs.length fc := by
    rcases hfo.2 with ⟨rfl, h0⟩ | ⟨g, c, cur, rfl, _⟩
    · exact ⟨none, 0, by rw [h0]⟩
    · exact ⟨_, c, rfl⟩
  have hof : OwnFa w2 (.slice fa fs.length fc) fs.length fs := ⟨hfo.1, by
    rcases hfo.2 with h1 | ⟨g, c, cur, e, _, rest⟩
    · exact .inl h1
    · exact .inr ⟨g, c, cur, e, Nat.zero_le _, rest⟩⟩
  have hdv := devNewS (3 + (y : Int)) fa fs.length fc fs w2 (hof.fr (by omega))
  have hnew : devN (3 + (y : Int)) fs = ⟨newD (3 + (y : Int)), 0, fs, false⟩ := by
    unfold devN
    rw [if_pos (devB_parts.2 ⟨ok_new (by omega), by omega, hfb⟩)]
  have hok0 : devB (newD (3 + (y : Int))) 0 fs = true := devB_parts.2 ⟨ok_new (by omega), by omega, hfb⟩
  rw [hnew] at hdv
  have hbt0 : BytC (newD (3 + (y : Int))) := bytC_new _
  generalize newD (3 + (y : Int)) = ds0 at hdv hok0 hbt0
  clear hnew hfo hof h1 z1 SV1 sv2 gr2 hfb
  go_wp2_with fail
  refine hdv.mono ?_
  rintro e w3 ⟨va, vn, vc, fb, m, gc2, qs, rfl, hnd, hql, b3⟩
  have b4 : Below w3.heap.size w3 (w3.alloc (.cells #[.slice va vn vc, .int .i64 0, .slice fb m gc2, .bool false] 29)) := (Below.refl _ _).alloc (Nat.le_refl _) _
  have hg3 := b3.size
  have XR0 : XL w (w3.alloc (.cells #[.slice va vn vc, .int .i64 0, .slice fb m gc2, .bool false] 29)) gc n cap a zs w3.heap.size 29 #[.slice none 0 0, .int .i64 0, .slice none 0 0, .bool false] #[.slice va vn vc, .int .i64 0, .slice fb m gc2, .bool false] ⟨ds0, 0, fs, false⟩ va vn vc fb m gc2 qs :=
    ⟨(h2.keep b3).keep b4, (SV2.trans (Below.sv b3 _)).trans (Below.sv b4 _), (hnd.keep b4).wider (by omega), hql, hok0, (z2.keep b3).keep b4, hgc, by omega, Blk.new w3 _ _, fun hf => by have := hnd.lt _ hf; omega, hbt0⟩
  have HX0 : Hid (XL w (w3.alloc (.cells #[.slice va vn vc, .int .i64 0, .slice fb m gc2, .bool false] 29)) gc n cap a zs w3.heap.size 29 #[.slice none 0 0, .int .i64 0, .slice none 0 0, .bool false] #[.slice va vn vc, .int .i64 0, .slice fb m gc2, .bool false] ⟨ds0, 0, fs, false⟩ va vn vc fb m gc2 qs) := XR0
  clear XR0 b4 b3 hnd hql h2 z2 SV2 hdv hok0 hfl B0 hsz0
  go_wp2_with fail
  obtain ⟨W4, hW4⟩ : ∃ W, w3.alloc (.cells #[.slice va vn vc, .int .i64 0, .slice fb m gc2, .bool false] 29) = W := ⟨_, rfl⟩
  obtain ⟨X, hX⟩ : ∃ X, w3.heap.size = X := ⟨_, rfl⟩
  rw [hW4, hX] at HX0
  rw [hW4]
  try rw [hX]
  clear hW4 hX hg1 hg2 hg3
  refine (below_step gc n cap a zs 16 W4 HX0.out.src (by omega) (by omega)).mono ?_
  rintro e w5 ⟨y2, rfl, hy2, h5, gr5⟩
  have HST : Hid (EX11 w w5 gc n cap a zs X) := ⟨⟨ds0, 0, fs, false⟩, _, _, _, _, _, _, _, HX0.out.step h5 gr5⟩
  clear HX0 h5 gr5
  go_wp2
  go_loopw [4] (fun i wr => ∃ j : Nat, j ≤ 16 ∧ i = .int .i64 j ∧ Hid (EX11 w wr gc n cap a zs X)) (fun i _ => (intOf i).toNat)
  case atStart => exact ⟨y2, by omega, rfl, HST⟩
  case round =>
    obtain ⟨j, hj, rfl, hst⟩ := hrel
    clear HST
    obtain ⟨D, va, vn, vc, fa, m, fc, qs, xl⟩ := hst.out
    clear hst
    by_cases hj0 : 0 < j
    · have hji : (0 : Int) < (j : Int) := by omega
      obtain ⟨i, rfl⟩ : ∃ i, j = i + 1 := ⟨j - 1, by omega⟩
      have hwi : IntKind.i64.wrap (i : Int) = (i : Int) := wrap_small _ (by omega) (by omega)
      have hsub : IntKind.i64.wrap ((i : Int) + 1 - 1) = (i : Int) := by rw [show (i : Int) + 1 - 1 = (i : Int) by omega]; exact wrap_small _ (by omega) (by omega)
      have hv := xl.vn
      obtain ⟨c0, c1, c2, c3⟩ := xl.x.dev
      go_wp2_with fail
      refine (below_step gc n cap a zs vn wr xl.src (by omega) (by omega)).mono ?_
      rintro e w6 ⟨k, rfl, hk, h6, g6⟩
      have x6 := xl.step h6 g6
      clear xl c0 c1 c2 c3 h6 g6
      go_wp2_with fail
      refine (below_step gc n cap a zs 8 w6 x6.src (by omega) (by omega)).mono ?_
      rintro e w7 ⟨y3, rfl, hy3, h7, g7⟩
      have x7 := x6.step h7 g7
      clear x6 h7 g7
      obtain ⟨d0, d1, d2, d3⟩ := x7.x.dev
      have HD7 : Hid (qs.map BkR.D = D.ds) := x7.nd.bs.D
      by_cases q0 : y3 = 0
      · subst q0
        go_wp2_with fail
        refine (devErS va vn vc qs D.ops fa m fc D.fs D.down (k : Int) w7 x7.cr x7.fr).mono ?_
        rintro e w9 ⟨va', vn', vc', fa', m', fc', qs', rfl, hn9, hl9, b9⟩
        obtain ⟨f0, f1, f2, f3⟩ := (x7.keep b9).x.dev
        have l0 := (x7.keep b9).x.frozen 0
        have l1 := (x7.keep b9).x.frozen 1
        have l2 := (x7.keep b9).x.frozen 2
        have l3 := (x7.keep b9).x.frozen 3
        have hk8 := erase_keep (down := D.down) (x := (k : Int)) x7.ok
        rw [← HD7.out] at hk8
        have hbq : BytC (qs.map BkR.D) := by rw [HD7.out]; exact x7.bt
        have hb8 := bytC_out (cd := evCode (qs.map BkR.D) D.ops D.fs D.down (codeE true (qs.map BkR.D) (k : Int))) (o := faD D.ops D.fs) hbq (bytC_erase hbq (k : Int).toNat) (bytC_bad hbq (k : Int).toNat) (fun t => bytC_torn hbq (k : Int).toNat t)
        have he : EX11 w _ gc n cap a zs X := ⟨_, _, _, _, _, _, _, _, x7.did (D' := ⟨outDs (evCode (qs.map BkR.D) D.ops D.fs D.down (codeE true (qs.map BkR.D) (k : Int))) (faD D.ops D.fs) (qs.map BkR.D) (eraseAt (qs.map BkR.D) ((k : Int)).toNat) (badD (qs.map BkR.D) ((k : Int)).toNat) (tornD (qs.map BkR.D) ((k : Int)).toNat), outOps (evCode (qs.map BkR.D) D.ops D.fs D.down (codeE true (qs.map BkR.D) (k : Int))) D.ops, D.fs, outDown (evCode (qs.map BkR.D) D.ops D.fs D.down (codeE true (qs.map BkR.D) (k : Int))) (faD D.ops D.fs) D.down⟩) b9 hn9 hl9 hk8 hb8⟩
        clear x7 hk8 hb8 hbq d0 d1 d2 d3 hn9 b9
        go_wp2
        go_roundw
        case rel => exact ⟨i, by omega, (by try simp), he⟩
        case measure => simp [intOf]
      · have n0 : ((y3 : Int) == 0) = false := by simp; omega
        have n0' : ¬ (y3 : Int) = 0 := by omega
        by_cases q1 : y3 = 1
        · subst q1
          have l3 := x7.x.frozen 3
          have he : EX11 w _ gc n cap a zs X := ⟨⟨D.ds, D.ops, D.fs, false⟩, _, _, _, _, _, _, _, (x7.setX 3 (.bool false)).down false⟩
          clear x7
          go_wp2
          go_roundw
          case rel => exact ⟨i, by omega, (by try simp), he⟩
          case measure => simp [intOf]
        · have n1 : ((y3 : Int) == 1) = false := by simp; omega
          have n1' : ¬ (y3 : Int) = 1 := by omega
          go_upto_region 7 with fail
          have xd := x7.drew
          obtain ⟨c0, c1, c2, c3⟩ := xd.x.dev
          clear x7 d0 d1 d2 d3
          go_region_with (first
            | (go_at_call 45; (with_reducible refine (some_step gc n cap a zs w7.drew xd.src).mono ?_); rintro e w8 ⟨gy, my, cy, ys, rfl, hmy, hgy, hby, oy, h8, g8⟩; have x8 := xd.step h8 g8; have hgyc : gc < gy := (by have := xd.src.cur.lt; omega); obtain ⟨f0, f1, f2, f3⟩ := x8.x.dev)
            | (go_at_call 13; (with_reducible refine (devPrS va vn vc qs D.ops fa m fc D.fs D.down (k : Int) gy my cy ys w8 x8.cr x8.fr oy.len ⟨Own.capE oy, by omega⟩ oy.rd).mono ?_); rintro e w9 ⟨va', vn', vc', fa', m', fc', qs', rfl, hn9, hl9, b9⟩; obtain ⟨j0, j1, j2, j3⟩ := (x8.keep b9).x.dev; have l0 := (x8.keep b9).x.frozen 0; have l1 := (x8.keep b9).x.frozen 1; have l2 := (x8.keep b9).x.frozen 2; have l3 := (x8.keep b9).x.frozen 3))
          all_goals (
            have hk8 := prog_keep (down := D.down) (x := (k : Int)) oy.len x8.ok
            rw [← HD7.out] at hk8
            have hbq : BytC (qs.map BkR.D) := by rw [HD7.out]; exact x8.bt
            have hb8 := bytC_out (cd := evCode (qs.map BkR.D) D.ops D.fs D.down (codeP true (qs.map BkR.D) (k : Int) my)) (o := faD D.ops D.fs) (t := fun t => progAt (qs.map BkR.D) (k : Int).toNat (ys.take t.toNat)) hbq (bytC_prog hbq (k : Int).toNat hby) (bytC_bad hbq (k : Int).toNat) (fun t => bytC_prog hbq (k : Int).toNat (byt_take hby t.toNat))
            have he : EX11 w _ gc n cap a zs X := ⟨_, _, _, _, _, _, _, _, x8.did (D' := ⟨outDs (evCode (qs.map BkR.D) D.ops D.fs D.down (codeP true (qs.map BkR.D) (k : Int) my)) (faD D.ops D.fs) (qs.map BkR.D) (progAt (qs.map BkR.D) ((k : Int)).toNat ys) (badD (qs.map BkR.D) ((k : Int)).toNat) (fun t => progAt (qs.map BkR.D) ((k : Int)).toNat ((ys).take t.toNat)), outOps (evCode (qs.map BkR.D) D.ops D.fs D.down (codeP true (qs.map BkR.D) (k : Int) my)) D.ops, D.fs, outDown (evCode (qs.map BkR.D) D.ops D.fs D.down (codeP true (qs.map BkR.D) (k : Int) my)) (faD D.ops D.fs) D.down⟩) b9 hn9 hl9 hk8 hb8⟩
            clear xd c0 c1 c2 c3 x8 hk8 hb8 hbq hn9 b9
            go_wp2
            go_roundw
            case rel => exact ⟨i, by omega, (by try simp), he⟩
            case measure => simp [intOf])
    · obtain rfl : j = 0 := by omega
      obtain ⟨e0, e1, e2, e3⟩ := xl.x.dev
      obtain ⟨r0, r1, r2, r3⟩ := xl.res.dev
      have l0 := xl.res.frozen 0
      have l1 := xl.res.frozen 1
      have l2 := xl.res.frozen 2
      have l3 := xl.res.frozen 3
      have xf := (((xl.setR 0 (.slice va vn vc)).setR 1 (.int .i64 D.ops)).setR 2 (.slice fa m fc)).setR 3 (.bool D.down)
      have zf := xf.res
      simp at zf
      obtain ⟨s0, s1, s2, s3⟩ := zf.dev
      have HXF : Hid _ := xf
      clear xf zf xl
      go_wp2
      refine bodyPost_ret (v := .agg #[.slice va vn vc, .int .i64 D.ops, .slice fa m fc, .bool D.down]) (by simp [results, Tryz.f90, go_sem, s0, s1, s2, s3]) rfl ?_
      rw [← HGP.out]
      have xf := HXF.out
      exact ⟨D, va, vn, vc, fa, m, fc, qs, rfl, xf.nd.wider (by omega), xf.ql, xf.ok, xf.bt, xf.src, xf.sv⟩
end

section
section
variable {P : Program} {ops : Array Oper} {Q : Exit → Act → World → Prop} {md : Region.Mode}
def dstOf (ops : Array Oper) (i : Nat) : Option Tmp := (ops[i]?).bind (·.dst)
/-- The operation i waits for the operation j. -/
def depB (md : Region.Mode) (ops : Array Oper) (i j : Nat) : Bool := ((ops[i]?).map fun o => o.after.any fun e => Region.binds md e && e.on == j).getD false
/-- No operation but L writes to t. -/
def noDst (ops : Array Oper) (L t : Nat) : Bool := (List.range ops.size).all fun i => i == L || dstOf ops i != some t
/-- Each waits for earlier ones alone, none for L; no two write to one place; all places are there. -/
def fitB (md : Region.Mode) (ops : Array Oper) (L sz : Nat) : Bool :=
  ((List.range ops.size).all fun i => ((ops[i]?).map fun o => o.after.all fun e => !Region.binds md e || (decide (e.on < i) && e.on != L)).getD false) &&
  ((List.range ops.size).all fun i => (List.range ops.size).all fun j => i == j || i == L || j == L || dstOf ops i == none || dstOf ops i != dstOf ops j) &&
  ((List.range ops.size).all fun i => i == L || ((dstOf ops i).map fun d => decide (d < sz)).getD true)
/-- j waits for i, whether straight or by others. -/
def preL (md : Region.Mode) (ops : Array Oper) : Nat → Nat → Nat → Bool
  | 0, j, i => j == i
  | f + 1, j, i => j == i || (List.range ops.size).any fun m => depB md ops j m && preL md ops f m i
/-- Each operation but L comes ahead of M or waits for it. -/
def sideB (md : Region.Mode) (ops : Array Oper) (L M f : Nat) : Bool := (List.range ops.size).all fun i => i == L || i == M || depB md ops i M || preL md ops f M i
/-- The operation j has come up, and this is what it yielded. -/
def HasV (ops : Array Oper) (J : Nat → Value → World → Prop) (a : Act) (W : World) (j : Nat) : Prop := ∃ v, (∀ d, dstOf ops j = some d → a.tmps[d]? = some v) ∧ J j v W
structure InvV (md : Region.Mode) (ops : Array Oper) (L M : Nat) (a0 : Act) (S : Bool → World → Prop) (J : Bool → Nat → Value → World → Prop) (listed : Array Bool) (a : Act) (W : World) : Prop where
  s : S (listed.getD M false) W
  df : a.defers = a0.defers
  sz : a.tmps.size = a0.tmps.size
  old : ∀ t, noDst ops L t = true → a.tmps[t]? = a0.tmps[t]?
  shut : ∀ j i, j ≠ L → depB md ops j i = true → listed.getD j false = true → listed.getD i false = true
  got : ∀ i, i ≠ L → i < ops.size → listed.getD i false = true → HasV ops (J (listed.getD M false)) a W i
/-- What is asked of an operation. -/
def StepV (P : Program) (md : Region.Mode) (ops : Array Oper) (Q : Exit → Act → World → Prop) (L M : Nat) (a0 : Act) (S : Bool → World → Prop) (J : Bool → Nat → Value → World → Prop) (i : Nat) : Prop :=
  ∀ o, ops[i]? = some o → ∀ b a W, (i = M → b = false) → (depB md ops i M = true → b = true) → (depB md ops i M = false → b = false) → S b W → (∀ t, noDst ops L t = true → a.tmps[t]? = a0.tmps[t]?) → (∀ j, depB md ops i j = true → HasV ops (J b) a W j) → ∀ K : Act → World → Prop, (∀ v W', S (b || i == M) W' → J (b || i == M) i v W' → (∀ j u, j ≠ i → (depB md ops j M = true → b = true) → J b j u W → J (b || i == M) j u W') → K (a.put o.dst v) W') →
    if Region.wanted o (yielded ops a.tmps) = true then Oper.wp P o a W K Q else K (a.put o.dst undef) W
theorem HasV.eval {J : Nat → Value → World → Prop} {a : Act} {W : World} {j d : Nat} (h : HasV ops J a W j) (hd : dstOf ops j = some d) : ∃ v, a.eval (.tmp d) = v ∧ J j v W := by
  obtain ⟨v, h1, h2⟩ := h
  refine ⟨v, ?_, h2⟩
  have := h1 d hd
  simp only [Act.eval, Array.getD_eq_getD_getElem?, this, Option.getD_some]
theorem eval_of {a : Act} {t : Nat} {v : Value} (h : a.tmps[t]? = some v) : a.eval (.tmp t) = v := by simp only [Act.eval, Array.getD_eq_getD_getElem?, h, Option.getD_some]
theorem count_less (p : Nat → Bool) (i : Nat) : ∀ n, List.countP (fun k => p k && k != i) (List.range n) ≤ List.countP p (List.range n) ∧ (i < n → p i = true → List.countP (fun k => p k && k != i) (List.range n) < List.countP p (List.range n)) := by
  intro n
  induction n with
  | zero => simp
  | succ n ih =>
    rw [List.range_succ, List.countP_append, List.countP_append]
    obtain ⟨h1, h2⟩ := ih
    have e1 : List.countP (fun k => p k && k != i) [n] ≤ List.countP p [n] := by
      cases hp : p n <;> simp [hp]
      split <;> omega
    constructor
    · omega
    · intro hi hp
      by_cases hn : n = i
      · subst hn
        have e2 : List.countP (fun k => p k && k != n) [n] = 0 := by simp
        have e3 : List.countP p [n] = 1 := by simp [hp]
        omega
      · have := h2 (by omega) hp
        omega
def unl (ops : Array Oper) (listed : Array Bool) : Nat := List.countP (fun k => !listed.getD k true) (List.range ops.size)
theorem unl_set {listed : Array Bool} {i : Nat} (hs : listed.size = ops.size) (hi : i < ops.size) (h : listed.getD i true = false) : unl ops (listed.setIfInBounds i true) < unl ops listed := by
  unfold unl
  have := (count_less (fun k => !listed.getD k true) i ops.size).2 hi (by simp [h])
  refine Nat.lt_of_le_of_lt (Nat.le_of_eq ?_) this
  refine List.countP_congr fun k hk => ?_
  by_cases hki : k = i
  · subst hki
    rw [set_getD_eq (by omega)]
    simp
  · rw [set_getD_ne (fun e => hki e.symm)]
    simp [hki]
theorem fit_order {L sz : Nat} (h : fitB md ops L sz = true) {i : Nat} {o : Oper} (ho : ops[i]? = some o) : ∀ e ∈ o.after, Region.binds md e = true → e.on < i ∧ e.on ≠ L := by
  unfold fitB at h
  simp only [Bool.and_eq_true, List.all_eq_true, List.mem_range] at h
  have h1 := h.1.1 i (Array.getElem?_eq_some_iff.1 ho).1
  rw [ho] at h1
  simp only [Option.map_some, Option.getD_some, Array.all_eq_true_iff_forall_mem] at h1
  intro e he hb
  have h2 := h1 e he
  rw [hb] at h2
  simpa using h2
theorem fit_one {L sz : Nat} (h : fitB md ops L sz = true) {i j d : Nat} (hi : i < ops.size) (hj : j < ops.size) (hiL : i ≠ L) (hjL : j ≠ L) (h1 : dstOf ops i = some d) (h2 : dstOf ops j = some d) : i = j := by
  unfold fitB at h
  simp only [Bool.and_eq_true, List.all_eq_true, List.mem_range] at h
  have h3 := h.1.2 i hi j hj
  rw [h1, h2] at h3
  simp [hiL, hjL] at h3
  exact h3
theorem fit_in {L sz : Nat} (h : fitB md ops L sz = true) {i d : Nat} (hi : i < ops.size) (hiL : i ≠ L) (h1 : dstOf ops i = some d) : d < sz := by
  unfold fitB at h
  simp only [Bool.and_eq_true, List.all_eq_true, List.mem_range] at h
  have h3 := h.2 i hi
  rw [h1] at h3
  simpa [hiL] using h3
theorem all_listedV {L sz : Nat} (h : fitB md ops L sz = true) {listed : Array Bool} (hs : listed.size = ops.size) (hr : Region.ready md ops listed = []) : ∀ i, i < ops.size → listed.getD i true = true := by
  intro i
  induction i using Nat.strongRecOn with
  | ind i ih =>
    intro hi
    cases hl : listed.getD i true with
    | true => rfl
    | false =>
      have ho : ops[i]? = some ops[i] := Array.getElem?_eq_getElem hi
      have : i ∈ Region.ready md ops listed := mem_ready.2 ⟨hl, _, ho, fun e he hb => by
        have h1 := (fit_order h ho e he hb).1
        rw [← getD_both (by omega)]
        exact ih e.on h1 (by omega)⟩
      rw [hr] at this
      cases this
theorem noDst_ne {L t i : Nat} (h : noDst ops L t = true) (hi : i < ops.size) (hiL : i ≠ L) : dstOf ops i ≠ some t := by
  unfold noDst at h
  simp only [List.all_eq_true, List.mem_range] at h
  have := h i hi
  simpa [hiL] using this
theorem put_at (a : Act) (dst : Option Tmp) (v : Value) (t : Nat) : (a.put dst v).tmps[t]? = if dst = some t ∧ t < a.tmps.size then some v else a.tmps[t]? := by
  cases dst with
  | none => simp [Act.put]
  | some d =>
    simp only [Act.put, Option.some.injEq, Array.getElem?_setIfInBounds]
    by_cases h : d = t
    · subst h
      by_cases h2 : d < a.tmps.size
      · simp [h2]
      · simp [h2]
    · simp [h]
theorem put_size (a : Act) (dst : Option Tmp) (v : Value) : (a.put dst v).tmps.size = a.tmps.size := by cases dst <;> simp [Act.put]
theorem put_defers (a : Act) (dst : Option Tmp) (v : Value) : (a.put dst v).defers = a.defers := by cases dst <;> rfl
theorem dep_in {i j L sz : Nat} (hfit : fitB md ops L sz = true) (h : depB md ops i j = true) : i < ops.size ∧ j < i ∧ j ≠ L := by
  unfold depB at h
  cases ho : ops[i]? with
  | none => rw [ho] at h; simp at h
  | some o =>
    rw [ho] at h
    simp only [Option.map_some, Option.getD_some, Array.any_eq_true, Bool.and_eq_true, beq_iff_eq] at h
    obtain ⟨x, hx, hb, rfl⟩ := h
    have hlt := fit_order hfit ho _ (Array.getElem_mem hx) hb
    exact ⟨(Array.getElem?_eq_some_iff.1 ho).1, hlt⟩
theorem pre_listed {L sz : Nat} (hfit : fitB md ops L sz = true) {listed : Array Bool} (hsh : ∀ j i, j ≠ L → depB md ops j i = true → listed.getD j false = true → listed.getD i false = true) : ∀ (f j i : Nat), j ≠ L → preL md ops f j i = true → listed.getD j false = true → listed.getD i false = true := by
  intro f
  induction f with
  | zero => intro j i _ h hl; simp only [preL, beq_iff_eq] at h; subst h; exact hl
  | succ f ih =>
    intro j i hj h hl
    simp only [preL, Bool.or_eq_true, beq_iff_eq, List.any_eq_true, Bool.and_eq_true] at h
    rcases h with rfl | ⟨m, _, hd, hp⟩
    · exact hl
    · exact ih m i (dep_in hfit hd).2.2 hp (hsh j m hj hd hl)
theorem wpAny_inv {L M : Nat} {a0 : Act} (S : Bool → World → Prop) (J : Bool → Nat → Value → World → Prop) (hfit : fitB md ops L a0.tmps.size = true) (hML : M ≠ L) (f : Nat) (hside : sideB md ops L M f = true)
    (step : ∀ i, i < ops.size → i ≠ L → StepV P md ops Q L M a0 S J i)
    (fin : ∀ a W, S (decide (M < ops.size)) W → a.defers = a0.defers → a.tmps.size = a0.tmps.size → (∀ t, noDst ops L t = true → a.tmps[t]? = a0.tmps[t]?) → (∀ i, i < ops.size → i ≠ L → HasV ops (J (decide (M < ops.size))) a W i) → Q .normal a W) :
    ∀ (fuel : Nat) (listed : Array Bool) (a : Act) (W : World), listed.size = ops.size → unl ops listed ≤ fuel → (L < ops.size → listed.getD L true = true) → InvV md ops L M a0 S J listed a W → wpAny P md ops Q fuel listed a W := by
  have hend : ∀ (listed : Array Bool) (a : Act) (W : World), listed.size = ops.size → Region.ready md ops listed = [] → InvV md ops L M a0 S J listed a W → Q .normal a W := fun listed a W hs hr h => by
    have hb : listed.getD M false = decide (M < ops.size) := by
      by_cases hM : M < ops.size
      · rw [decide_eq_true hM, ← getD_both (by omega)]
        exact all_listedV hfit hs hr M hM
      · rw [decide_eq_false hM]
        simp [Array.getD, show ¬ M < listed.size by omega]
    have hS := h.s
    rw [hb] at hS
    refine fin a W hS h.df h.sz h.old (fun i hi hiL => ?_)
    have := h.got i hiL hi (by rw [← getD_both (by omega)]; exact all_listedV hfit hs hr i hi)
    rw [hb] at this
    exact this
  intro fuel
  induction fuel with
  | zero =>
    intro listed a W hs hu _ h
    have hr : Region.ready md ops listed = [] := by
      refine List.eq_nil_iff_forall_not_mem.2 fun i hi => ?_
      obtain ⟨h1, o, ho, _⟩ := mem_ready.1 hi
      have := unl_set hs (Array.getElem?_eq_some_iff.1 ho).1 h1
      omega
    exact ⟨hr, hend listed a W hs hr h⟩
  | succ fuel ih =>
    intro listed a W hs hu hL h
    refine ⟨fun hr => hend listed a W hs hr h, fun i hi => ?_⟩
    obtain ⟨h1, o, ho, hall⟩ := mem_ready.1 hi
    have hiz : i < ops.size := (Array.getElem?_eq_some_iff.1 ho).1
    have hiL : i ≠ L := fun e => by subst e; rw [hL hiz] at h1; cases h1
    have hfl : (listed.setIfInBounds i true).getD M false = (listed.getD M false || i == M) := by
      by_cases hiM : i = M
      · subst hiM
        rw [set_getD_eq (by omega)]
        simp
      · rw [set_getD_ne hiM]
        simp [hiM]
    have hall' : ∀ j, depB md ops i j = true → listed.getD j false = true ∧ j < ops.size ∧ j ≠ L := fun j hj => by
      unfold depB at hj
      rw [ho] at hj
      simp only [Option.map_some, Option.getD_some, Array.any_eq_true, Bool.and_eq_true, beq_iff_eq] at hj
      obtain ⟨x, hx, hb, rfl⟩ := hj
      have hm := Array.getElem_mem hx
      have hlt := fit_order hfit ho _ hm hb
      exact ⟨hall _ hm hb, by omega, hlt.2⟩
    refine wpOp_step ho fun K hK => ?_
    refine step i hiz hiL o ho (listed.getD M false) a W (fun e => by subst e; rw [← getD_both (by omega)]; exact h1) (fun hd => (hall' M hd).1) (fun hd => ?_) h.s h.old (fun j hj => h.got _ (hall' j hj).2.2 (hall' j hj).2.1 (hall' j hj).1) K (fun v W' hS' hJ hst => hK _ _ (ih _ _ _ (by simp [hs]) (by have := unl_set hs hiz h1; omega) (fun hLs => by rw [set_getD_ne hiL]; exact hL hLs) ⟨by rw [hfl]; exact hS', ?_, ?_, ?_, ?_, ?_⟩))
    · by_cases hiM : i = M
      · subst hiM; rw [← getD_both (by omega)]; exact h1
      · unfold sideB at hside
        simp only [List.all_eq_true, List.mem_range, Bool.or_eq_true, beq_iff_eq] at hside
        have h2 := hside i hiz
        cases hl : listed.getD M false with
        | false => rfl
        | true =>
          rcases h2 with ((h2 | h2) | h2) | h2
          · exact absurd h2 hiL
          · exact absurd h2 hiM
          · rw [hd] at h2; cases h2
          · have := pre_listed hfit h.shut f M i hML h2 hl
            rw [← getD_both (by omega), h1] at this
            cases this
    · rw [put_defers]; exact h.df
    · rw [put_size]; exact h.sz
    · intro t ht
      rw [put_at]
      have hne := noDst_ne ht hiz hiL
      have hd : dstOf ops i = o.dst := by simp [dstOf, ho]
      rw [hd] at hne
      rw [if_neg (fun h => hne h.1)]
      exact h.old t ht
    · intro j m hjL hd hl
      by_cases hji : j = i
      · subst hji
        exact getD_set_true (hall' m hd).1
      · rw [set_getD_ne (fun e => hji e.symm)] at hl
        exact getD_set_true (h.shut j m hjL hd hl)
    · intro k hkL hkz hk
      have hd : dstOf ops i = o.dst := by simp [dstOf, ho]
      rw [hfl]
      by_cases hki : k = i
      · subst hki
        refine ⟨v, fun d hd' => ?_, hJ⟩
        rw [put_at]
        rw [hd] at hd'
        have := fit_in hfit hiz hiL (hd.trans hd')
        rw [if_pos ⟨hd', by rw [h.sz]; exact this⟩]
      · rw [set_getD_ne (fun e => hki e.symm)] at hk
        obtain ⟨v', hv1, hv2⟩ := h.got k hkL hkz hk
        refine ⟨v', fun d hd' => ?_, hst k v' hki (fun hd2 => h.shut k M hkL hd2 hk) hv2⟩
        rw [put_at, if_neg (fun h => hki (fit_one hfit hkz hiz hkL hiL hd' (hd.trans h.1)))]
        exact hv1 d hd'
/-- The beginning, where the operation L waits for all others (the store at the end), and M is one of them. -/
theorem wp_region_inv (L M n : Nat) (S : Bool → World → Prop) (J : Bool → Nat → Value → World → Prop) {id : Nat} {a : Act} {w : World} (hm : P.follows .mixedOrders = true) (hL : lastOne .any ops L = true) (hn : ops.size = n + 1) (hfit : fitB .any ops L a.tmps.size = true) (hML : M ≠ L) (hMn : M ≤ n) (f : Nat) (hside : sideB .any ops L M f = true) (hS : S false w.drew)
    (step : ∀ i, i < n + 1 → i ≠ L → StepV P .any ops (ThenL P ops Q L) L M a S J i)
    (fin : ∀ a' W, S true W → a'.defers = a.defers → a'.tmps.size = a.tmps.size → (∀ t, noDst ops L t = true → a'.tmps[t]? = a.tmps[t]?) → (∀ i, i < n + 1 → i ≠ L → HasV ops (J true) a' W i) → ThenL P ops Q L .normal a' W) : (Code.region id ops true).wp P Q a w := by
  refine wp_region_any hm ?_
  have hlt := last_lt hL
  have hg : ∀ i, i ≠ L → ((Array.replicate ops.size false).setIfInBounds L true).getD i false = false := fun i hne => by
    rw [set_getD_ne (fun e => hne e.symm)]
    by_cases hi : i < ops.size
    · simp [Array.getD, hi]
    · simp [Array.getD, hi]
  have hu : unl ops ((Array.replicate ops.size false).setIfInBounds L true) ≤ n := by
    have h1 := unl_set (ops := ops) (listed := Array.replicate ops.size false) (i := L) (by simp) hlt (by simp [Array.getD, hlt])
    have h2 : unl ops (Array.replicate ops.size false) ≤ ops.size := by
      unfold unl
      refine Nat.le_trans List.countP_le_length ?_
      simp
    omega
  have hdM : decide (M < ops.size) = true := decide_eq_true (by omega)
  have key := wpAny_inv (P := P) (md := .any) (Q := ThenL P ops Q L) (a0 := a) S J hfit hML f hside (fun i hi hne => step i (by omega) hne) (fun a W h1 h2 h3 h4 h5 => fin a W (by rw [hdM] at h1; exact h1) h2 h3 h4 (fun i hi hne => by have := h5 i (by omega) hne; rw [hdM] at this; exact this)) n ((Array.replicate ops.size false).setIfInBounds L true) a w.drew (by simp) hu (fun _ => set_getD_eq (by simpa using hlt)) ⟨by rw [hg M hML]; exact hS, rfl, rfl, fun _ _ => rfl, fun j i hj hd h => (by rw [hg j hj] at h; cases h), fun i hne hi h => (by rw [hg i hne] at h; cases h)⟩
  have := wpAny_thenL (Q := Q) (P := P) hL n (Array.replicate ops.size false) a w.drew (by simp) (by simp [Array.getD, hlt]) (fun j o ho hl => by have := (Array.getElem?_eq_some_iff.1 ho).1; simp [Array.getD, this] at hl) key
  rw [← hn] at this
  exact this
/-- The places behind such a region, written out. -/
theorem puts_eq : ∀ (l : List (Nat × Value)) (ts ts0 : Array Value), ts.size = ts0.size → (∀ p ∈ l, ts[p.1]? = some p.2) → (∀ t, (∃ p ∈ l, p.1 = t) ∨ ts[t]? = ts0[t]?) → ts = l.foldl (fun x p => x.setIfInBounds p.1 p.2) ts0 := by
  intro l
  induction l with
  | nil =>
    intro ts ts0 hs _ h
    refine Array.ext_getElem? fun t => ?_
    rcases h t with ⟨p, hp, _⟩ | h1
    · simp at hp
    · exact h1
  | cons p l ih =>
    intro ts ts0 hs h1 h2
    refine ih ts (ts0.setIfInBounds p.1 p.2) (by simp [hs]) (fun q hq => h1 q (List.mem_cons_of_mem _ hq)) (fun t => ?_)
    by_cases ht : p.1 = t
    · right
      have h3 := h1 p (by simp)
      have h4 := (Array.getElem?_eq_some_iff.1 h3).1
      rw [← ht, h3, Array.getElem?_setIfInBounds]
      simp [← hs, h4]
    · rcases h2 t with ⟨q, hq, hqt⟩ | h3
      · rcases List.mem_cons.1 hq with rfl | hq'
        · exact absurd hqt ht
        · exact .inl ⟨q, hq', hqt⟩
      · right
        rw [h3, Array.getElem?_setIfInBounds]
        simp [ht]
/-- Where the operations but L write to. -/
def dstsL (ops : Array Oper) (L : Nat) : List Nat := (List.range ops.size).filterMap fun i => if i == L then none else dstOf ops i
theorem noDst_of {L t : Nat} (h : t ∉ dstsL ops L) : noDst ops L t = true := by
  unfold noDst
  simp only [List.all_eq_true, List.mem_range]
  intro i hi
  cases hiL : i == L with
  | true => rfl
  | false =>
    simp only [Bool.false_or]
    cases hd : dstOf ops i with
    | none => simp
    | some d =>
      have : d ∈ dstsL ops L := List.mem_filterMap.2 ⟨i, List.mem_range.2 hi, by rw [hiL]; exact hd⟩
      simp
      intro e
      subst e
      exact h this
theorem puts_act {L : Nat} {a' a : Act} (l : List (Nat × Value)) (hd : l.map Prod.fst = dstsL ops L) (hdf : a'.defers = a.defers) (hsz : a'.tmps.size = a.tmps.size) (hold : ∀ t, noDst ops L t = true → a'.tmps[t]? = a.tmps[t]?) (h1 : ∀ p ∈ l, a'.tmps[p.1]? = some p.2) : a' = ⟨l.foldl (fun x p => x.setIfInBounds p.1 p.2) a.tmps, a.defers⟩ := by
  obtain ⟨ts, ds⟩ := a'
  simp only at hdf
  subst hdf
  congr 1
  refine puts_eq l ts a.tmps hsz h1 fun t => ?_
  by_cases ht : t ∈ dstsL ops L
  · rw [← hd] at ht
    obtain ⟨p, hp, e⟩ := List.mem_map.1 ht
    exact .inl ⟨p, hp, e⟩
  · exact .inr (hold t (noDst_of ht))
end
end

section
open Go.RowKit
/-- A block's pages but the first. -/
theorem NewBs.cut {w : World} {B g n c k P cp : Nat} {ds : List BkD} {qs : List BkR} {b : BkR} (h : NewBs w B (.slice (some ⟨g, 0, none⟩) n c) ds qs) (hn : qs.length = n) (hb : qs[k]? = some b) (hba : b.a = some ⟨P, 0, none⟩) (ht : totB ds ≤ 1048576) :
    ACR B (w.setCell ⟨g, k * 3, none⟩ (.slice (some ⟨P, 2, none⟩) (b.ps.drop 1).length cp)) (some ⟨g, 0, none⟩) n (qs.set k ⟨some ⟨P, 2, none⟩, cp, b.ps.drop 1, b.wear, b.bad⟩) := fun W hW => by
  have hr := h.row
  have hbm : b ∈ qs := List.mem_of_getElem? hb
  have hset : ∀ j, j ≠ g → (w.setCell ⟨g, k * 3, none⟩ (.slice (some ⟨P, 2, none⟩) (b.ps.drop 1).length cp)).heap[j]? = w.heap[j]? := fun j hj => Below.heap_setCell _ _ _ _ hj
  have hown : OwnE bkE 42 w (.slice (some ⟨g, 0, none⟩) n c) n qs := by have := h.own.1; rw [hn] at this; exact this
  have s := hown.set k 0 b ⟨some ⟨P, 2, none⟩, cp, b.ps.drop 1, b.wear, b.bad⟩ (.slice (some ⟨P, 2, none⟩) (b.ps.drop 1).length cp) hb (by decide) rfl
  have hgl : g < w.heap.size := h.own.lt g (fpBs_row rfl)
  have s2 := s.block (w' := W) fun j hj => by
    simp [Value.ownBlock] at hj
    subst hj
    exact hW _ hr.2 (by rw [size_setC]; exact hgl)
  have hrd : ∀ r ∈ qs, RdPs W r.a r.ps := fun r hrm => by
    have h1 := h.own.2 r hrm
    have h2 : OwnPs W r.v r.ps := h1.block fun j hj => by
      have hjl := h1.lt j hj
      have hjf : j ∈ bkK.fps qs := List.mem_flatMap.2 ⟨r, hrm, hj⟩
      have hjB : B ≤ j := h.new j (fpBs_bk hrm hj)
      rw [hW j hjB (by rw [size_setC]; exact hjl)]
      exact hset j (fun e => by subst e; exact hr.1 hjf)
    exact OwnPs.rd (n := r.ps.length) (c := r.cap) h2
  obtain ⟨a', c', e, hR⟩ := s2.rd (rd := fun r => RdPs W r.a r.ps) (fun r hr2 => by
    rcases mem_set hr2 with rfl | ⟨i, _, hi⟩
    · have h3 := hrd b hbm
      rw [hba] at h3
      rcases h3 with h0 | ⟨b', off, h4, hc⟩
      · exact .inl (by show b.ps.drop 1 = []; rw [h0]; rfl)
      · simp only [Option.some.injEq, Addr.mk.injEq] at h4
        obtain ⟨rfl, rfl, _⟩ := h4
        refine .inr ⟨_, 2, rfl, fun i r hi => ?_⟩
        have h5 := hc (1 + i) r (by rw [List.getElem?_drop] at hi; exact hi)
        refine ⟨fun j hj => ?_, h5.2⟩
        have h6 := h5.1 j hj
        have e1 : 0 + (1 + i) * pgE.k + j = 2 + i * pgE.k + j := by show 0 + (1 + i) * 2 + j = 2 + i * 2 + j; omega
        rw [e1] at h6
        exact h6
    · exact hrd r (List.mem_of_getElem? hi))
  simp only [Value.slice.injEq] at e
  refine ⟨by rw [List.length_set]; exact hn, ?_, by rw [e.1]; exact hR⟩
  rw [List.map_set, h.D]
  refine Nat.le_trans (totB_set ds k b.D _ (by rw [← h.D, List.getElem?_map, hb]; rfl) ?_) ht
  show totP ((b.ps.drop 1).map PgR.D) ≤ totP (b.ps.map PgR.D)
  cases b.ps with
  | nil => simp
  | cons x l => rw [List.drop_one, List.tail_cons, List.map_cons, totP_cons]; omega
end

section
open Go.RowKit
theorem ok_tot2 {ds : List BkD} (h : ChOk ds) : totB ds ≤ 100000 := by
  have hb : ∀ b ∈ ds, totP b.ps ≤ 3208 := fun b hb => by
    have h1 := h.2.2 b hb
    have h2 := totP_bound b.ps (fun p hp => by
      obtain ⟨i, hi⟩ := List.mem_iff_getElem?.1 hp
      have := (h1.2.2.2 i p hi).1
      unfold pgOk at this
      simp at this
      exact this.1)
    rw [h1.1] at h2
    omega
  have h3 := totB_bound ds hb
  have h4 := h.2.1
  omega
theorem totB_setY : ∀ (ds : List BkD) (k : Nat) (b' : BkD), totB (ds.set k b') ≤ totB ds + 1 + totP b'.ps
  | [], _, _ => by simp [totB]
  | d :: ds, 0, b' => by rw [List.set_cons_zero, totB_cons, totB_cons]; omega
  | d :: ds, k + 1, b' => by
    have := totB_setY ds k b'
    rw [List.set_cons_succ, totB_cons, totB_cons]
    omega
theorem totP_setY : ∀ (ps : List PgD) (k : Nat) (q : PgD), totP (ps.set k q) ≤ totP ps + 1 + q.zs.length
  | [], _, _ => by simp [totP]
  | d :: ps, 0, q => by rw [List.set_cons_zero, totP_cons, totP_cons]; omega
  | d :: ps, k + 1, q => by
    have := totP_setY ps k q
    rw [List.set_cons_succ, totP_cons, totP_cons]
    omega
theorem totP_leB {ds : List BkD} {b : BkD} (h : b ∈ ds) : totP b.ps ≤ totB ds := by
  induction ds with
  | nil => simp at h
  | cons d ds ih =>
    rw [totB_cons]
    rcases List.mem_cons.1 h with rfl | h1
    · omega
    · have := ih h1
      omega
theorem ownE_cap {α : Type} {E : El α} {ty : TypeId} {w : World} {a : Option Addr} {n c m : Nat} {rs : List α} (h : OwnE E ty w (.slice a n c) m rs) : n ≤ c := by
  rcases h.2 with ⟨h1, h2⟩ | ⟨g', c', cur, h1, _, _, h2, _⟩
  · simp only [Value.slice.injEq] at h1; omega
  · simp only [Value.slice.injEq] at h1; omega
theorem rowB_one (w : World) (z : Int) : RowB (w.alloc (.cells #[.int .u8 z] 5)) (.slice (some ⟨w.heap.size, 0, none⟩) 1 1) 1 [z] :=
  ⟨rfl, .inr ⟨w.heap.size, 1, #[.int .u8 z], (0, 0), rfl, heap_alloc_new w _, by simp, fun i hi => by obtain rfl := (show i = 0 by omega); rfl, .inr rfl⟩⟩
theorem sv_at {F : List Nat} {X i : Nat} {v : Value} (w : World) (h : X ∈ F) : Sv F w (w.setCell ⟨X, i, none⟩ v) :=
  ⟨rfl, rfl, rfl, by rw [size_setC]; exact Nat.le_refl _, fun k _ hn => Below.heap_setCell _ _ _ _ (fun e => hn (e ▸ h))⟩
theorem totP_same : ∀ {ps : List PgD} {k : Nat} {p q : PgD}, ps[k]? = some p → q.zs.length ≤ p.zs.length → totP (ps.set k q) ≤ totP ps
  | [], _, _, _, h, _ => by simp at h
  | d :: ps, 0, p, q, h, hq => by simp at h; subst h; rw [List.set_cons_zero, totP_cons, totP_cons]; omega
  | d :: ps, k + 1, p, q, h, hq => by
    have := totP_same (ps := ps) (k := k) (p := p) (q := q) (by simpa using h) hq
    rw [List.set_cons_succ, totP_cons, totP_cons]
    omega
theorem pg_some {W : World} {B k : Nat} {v : Value} {ds : List BkD} {qs : List BkR} {b : BkR} (h : NewBs W B v ds qs) (hb : qs[k]? = some b) (h8 : 0 < b.ps.length) : ∃ P, b.a = some ⟨P, 0, none⟩ := by
  have h1 : OwnE pgE 92 W (.slice b.a b.ps.length b.cap) b.ps.length b.ps := (h.own.2 b (List.mem_of_getElem? hb)).1
  rcases h1.cases with ⟨_, h2, _⟩ | ⟨g, c, h0, _⟩
  · rw [h2] at h8
    simp at h8
  · simp only [Value.slice.injEq] at h0
    exact ⟨g, h0.1⟩
theorem pg_row {W : World} {B k P : Nat} {v : Value} {ds : List BkD} {qs : List BkR} {b : BkR} (h : NewBs W B v ds qs) (hb : qs[k]? = some b) (hP : b.a = some ⟨P, 0, none⟩) : OwnE pgE 92 W (.slice (some ⟨P, 0, none⟩) b.ps.length b.cap) b.ps.length b.ps := by
  have h1 : OwnE pgE 92 W (.slice b.a b.ps.length b.cap) b.ps.length b.ps := (h.own.2 b (List.mem_of_getElem? hb)).1
  rw [hP] at h1
  exact h1
end

section
open Go.RowKit
theorem bytC_eraseD {ds : List BkD} (h : BytC ds) {ok : Bool} (x : Int) : BytC (eraseD ok ds x) := by
  unfold eraseD
  split
  · exact bytC_erase h _
  · exact h
theorem bytC_programD {ds : List BkD} (h : BytC ds) {ok : Bool} (x : Int) {zs : List Int} (hz : Byt zs) : BytC (programD ok ds x zs) := by
  unfold programD
  split
  · exact bytC_prog h _ hz
  · exact h
/-- What l10Draw answers: its pages hold bytes, too. -/
def DrAb (w : World) (gc n cap : Nat) (a : Option Addr) (zs : List Int) (e : Ending) (w' : World) : Prop := ∃ va vn vc qs ds, e = .returned (.agg #[.slice va vn vc]) ∧ NewBs w' w.heap.size (.slice va vn vc) ds qs ∧ qs.length = vn ∧ ChOk ds ∧ BytC ds ∧ Src w' gc n cap a zs ∧ Sv [gc] w w'
set_option maxRecDepth 100000 in
set_option maxHeartbeats 16000000 in
theorem l10DrawB (gc n cap : Nat) (a : Option Addr) (zs : List Int) (w : World) (h : Src w gc n cap a zs) :
    Calls Tryz.prog 125 #[.pointer (some ⟨gc, 0, none⟩)] w (DrAb w gc n cap a zs) := by
  have hgc := h.cur.lt
  have B0 : Below w.heap.size w (w.alloc (.cells #[.slice none 0 0] 26)) := (Below.refl _ w).alloc (Nat.le_refl _) _
  have z0 := Blk.new w 26 #[.slice none 0 0]
  have h0 := h.keep B0
  generalize hGP : DrAb w gc n cap a zs = P
  have HGP : Hid _ := hGP
  clear hGP h
  obtain ⟨H, hH⟩ : ∃ H, w.heap.size = H := ⟨_, rfl⟩
  have HH : Hid _ := hH
  rw [hH] at z0
  go_enter Tryz.func125, Tryz.ntmps125
  go_wp2_with fail
  obtain ⟨W0, hW0⟩ : ∃ W, w.alloc (.cells #[.slice none 0 0] 26) = W := ⟨_, rfl⟩
  rw [hW0] at B0 z0 h0 ⊢
  try rw [hH]
  clear hW0
  have hgH : gc < H := by omega
  have HB0 : Hid (Below w.heap.size w W0) := B0
  have hW0s : H < W0.heap.size := z0.lt
  clear B0 hH
  refine (below_step gc n cap a zs 3 W0 h0 (by omega) (by omega)).mono ?_
  rintro e w1 ⟨y, rfl, hy, h1, gr1⟩
  have sv1 := sv_grown gr1
  have z1 := Blk.svs z0 sv1 (by simp; omega)
  clear h0 z0 gr1
  have hyi : (y : Int) < 3 := by omega
  go_wp2_with fail
  refine (chipNewS _ w1).mono ?_
  rintro e w2 ⟨va, vn, vc, qs, rfl, hq, hql, b2⟩
  have h2 := h1.keep b2
  have z2 := z1.keep b2
  have hok : ChOk (newD (3 + (y : Int))) := ok_new (by omega)
  have b3 : Below w2.heap.size w2 (w2.alloc (.cells #[.slice va vn vc] 26)) := (Below.refl _ _).alloc (Nat.le_refl _) _
  have zX := Blk.new w2 26 #[.slice va vn vc]
  have hW1 : w1.heap.size ≤ w2.heap.size := b2.size
  have hXf : w2.heap.size ∉ fpBs (.slice va vn vc) qs := fun hf => by have := hq.own.lt _ hf; omega
  obtain ⟨X, hX⟩ : ∃ X, w2.heap.size = X := ⟨_, rfl⟩
  have hs1 := sv1.size
  have dc3 : DC W0 (w2.alloc (.cells #[.slice va vn vc] 26)) X (newD (3 + (y : Int))) va vn vc qs := ⟨(hq.keep b3).wider (by have := HB0.out.size; omega), hql, hok, by rw [← hX]; exact zX, by rw [← hX]; exact hXf, by have := HB0.out.size; omega⟩
  have h3 := h2.keep b3
  have z3 := z2.keep b3
  have svw : Sv [gc] w (w2.alloc (.cells #[.slice va vn vc] 26)) := ((Below.sv HB0.out _).trans sv1).trans ((Below.sv b2 _).trans (Below.sv b3 _))
  have hXH : H < X := by have := HH.out; have := HB0.out.size; omega
  clear zX hq hql b2 h1 h2 z1 z2 hXf hok
  go_wp2_with fail
  obtain ⟨W3, hW3⟩ : ∃ W, w2.alloc (.cells #[.slice va vn vc] 26) = W := ⟨_, rfl⟩
  rw [hW3] at dc3 h3 z3 svw b3 ⊢
  try rw [hX]
  clear hW3 b3 hX sv1
  refine (below_step gc n cap a zs 20 W3 h3 (by omega) (by omega)).mono ?_
  rintro e w4 ⟨y2, rfl, hy2, h4, gr4⟩
  have HST : Hid (∃ ds va vn vc qs, BytC ds ∧ DC W0 w4 X ds va vn vc qs ∧ Src w4 gc n cap a zs ∧ Blk w4 H 26 #[.slice none 0 0] ∧ Sv [gc] w w4) := ⟨_, _, _, _, _, bytC_new _, dc3.svs (sv_grown gr4) (by omega), h4, Blk.svs z3 (sv_grown gr4) (by simp; omega), svw.trans (sv_grown gr4)⟩
  clear dc3 h3 z3 svw h4 gr4
  go_wp2
  go_loopw [4] (fun i wr => ∃ j : Nat, j ≤ 20 ∧ i = .int .i64 j ∧ Hid (∃ ds va vn vc qs, BytC ds ∧ DC W0 wr X ds va vn vc qs ∧ Src wr gc n cap a zs ∧ Blk wr H 26 #[.slice none 0 0] ∧ Sv [gc] w wr)) (fun i _ => (intOf i).toNat)
  case atStart => exact ⟨y2, by omega, rfl, HST⟩
  case round =>
    obtain ⟨j, hj, rfl, hst⟩ := hrel
    clear HST
    obtain ⟨ds, va, vn, vc, qs, hbt, dc, hs, zr, sv⟩ := hst.out
    clear hst
    have hvn : 3 ≤ vn ∧ vn ≤ 24 := by have := dc.len; have := dc.ok.1; have := dc.ok.2.1; omega
    by_cases hj0 : 0 < j
    · have hji : (0 : Int) < (j : Int) := by omega
      obtain ⟨i, rfl⟩ : ∃ i, j = i + 1 := ⟨j - 1, by omega⟩
      have hwi : IntKind.i64.wrap (i : Int) = (i : Int) := wrap_small _ (by omega) (by omega)
      have x0 := dc.x.cell 0
      simp at x0
      go_wp2_with fail
      refine (below_step gc n cap a zs vn wr hs (by omega) (by omega)).mono ?_
      rintro e w5 ⟨k, rfl, hk, hs5, gr5⟩
      have dc5 := dc.svs (sv_grown gr5) (by omega)
      have zr5 := Blk.svs zr (sv_grown gr5) (by simp; omega)
      have sv5 := sv.trans (sv_grown gr5)
      clear dc zr sv hs gr5 x0
      go_wp2_with fail
      refine (once_step gc n cap a zs 6 w5 hs5 (by omega) (by omega)).mono ?_
      rintro e w6 ⟨B, rfl, hs6, gr6⟩
      have dc6 := dc5.svs (sv_grown gr6) (by omega)
      have zr6 := Blk.svs zr5 (sv_grown gr6) (by simp; omega)
      have sv6 := sv5.trans (sv_grown gr6)
      clear dc5 zr5 sv5 hs5 gr6
      have hok6 : chipOkB (qs.map BkR.D) = true := by rw [dc6.bs.D]; exact (chipOkB_iff _).2 dc6.ok
      have x6 := dc6.x.cell 0
      simp at x6
      cases B with
      | true =>
        have hcall := eraseS va vn vc qs (k : Int) w6 dc6.cr
        rw [hok6, dc6.bs.D] at hcall
        go_wp2_with fail
        refine hcall.mono ?_
        rintro e w7 ⟨va', vn', vc', qs', rfl, hq7, hl7, b7⟩
        have u0 := (dc6.x.keep b7).cell 0
        have f0 := (dc6.x.keep b7).frozen 0
        simp at u0
        have HN : Hid (∃ ds va vn vc qs, BytC ds ∧ DC W0 (w7.setCell ⟨X, 0, none⟩ (.slice va' vn' vc')) X ds va vn vc qs ∧ Src (w7.setCell ⟨X, 0, none⟩ (.slice va' vn' vc')) gc n cap a zs ∧ Blk (w7.setCell ⟨X, 0, none⟩ (.slice va' vn' vc')) H 26 #[.slice none 0 0] ∧ Sv [gc] w (w7.setCell ⟨X, 0, none⟩ (.slice va' vn' vc'))) := ⟨_, _, _, _, _, bytC_eraseD hbt _, dc6.put b7 hq7 hl7 (ok_erase dc6.ok _), (hs6.keep b7).set (by omega), (zr6.keep b7).other (B' := X) (by omega) 0 _, sv_new (sv6.trans (Below.sv b7 _)) (by have := dc6.xn; have := HH.out; omega)⟩
        clear hcall dc6 zr6 sv6 hs6 hq7 hl7 b7 x6 hok6
        go_wp2
        go_roundw
        case rel => exact ⟨i, by omega, by go_num, HN⟩
        case measure => simp [intOf]
      | false =>
        have x6d : w6.drew.cell? ⟨X, 0, none⟩ = some (.slice va vn vc) := x6
        have dc6d := dc6.keep (Below.refl w6.heap.size w6).drew
        have hs6d := hs6.keep (Below.refl w6.heap.size w6).drew
        have zr6d := zr6.keep (Below.refl w6.heap.size w6).drew
        have sv6d := sv6.trans (Below.sv (Below.refl w6.heap.size w6).drew [gc])
        go_wp2
        go_region_with (first
          | (go_at_call 45; (with_reducible refine (some_step gc n cap a zs w6.drew hs6d).mono ?_); rintro e w7 ⟨gy, my, cy, ys, rfl, hmy, hgy, hby, oy, hs7, gr7⟩; have dc7 := dc6d.svs (sv_grown gr7) (by omega); have x7 := dc7.x.cell 0; simp at x7)
          | (go_at_call 54; (with_reducible refine (programS va vn vc qs (k : Int) (some ⟨gy, 0, none⟩) my cy ys w7 oy.len2 (by omega) dc7.cr oy.rd).mono ?_); rintro e w8 ⟨va', vn', vc', qs', rfl, hq8, hl8, b8⟩; have u0 := (dc7.x.keep b8).cell 0; have f0 := (dc7.x.keep b8).frozen 0; simp at u0))
        all_goals (
          rw [hok6, dc7.bs.D] at hq8
          have HN : Hid (∃ ds va vn vc qs, BytC ds ∧ DC W0 (w8.setCell ⟨X, 0, none⟩ (.slice va' vn' vc')) X ds va vn vc qs ∧ Src (w8.setCell ⟨X, 0, none⟩ (.slice va' vn' vc')) gc n cap a zs ∧ Blk (w8.setCell ⟨X, 0, none⟩ (.slice va' vn' vc')) H 26 #[.slice none 0 0] ∧ Sv [gc] w (w8.setCell ⟨X, 0, none⟩ (.slice va' vn' vc'))) := ⟨_, _, _, _, _, bytC_programD hbt _ hby, dc7.put b8 hq8 hl8 (ok_prog dc7.ok _ _), (hs7.keep b8).set (by omega), ((Blk.svs zr6d (sv_grown gr7) (by simp; omega)).keep b8).other (B' := X) (by omega) 0 _, sv_new ((sv6d.trans (sv_grown gr7)).trans (Below.sv b8 _)) (by have := dc7.xn; have := HH.out; omega)⟩
          clear dc6 zr6 sv6 hs6 dc6d hs6d zr6d sv6d dc7 hq8 hl8 b8 x6 x6d hok6 oy hs7 gr7
          go_wp2
          go_roundw)
        all_goals first
          | (case rel => exact ⟨i, by omega, by go_num, HN⟩)
          | (case measure => simp [intOf])
    · have hji : ¬ (0 : Int) < (j : Int) := by omega
      have x0 := dc.x.cell 0
      simp at x0
      go_wp2_with fail
      refine (once_step gc n cap a zs 3 wr hs (by omega) (by omega)).mono ?_
      rintro e w5 ⟨B, rfl, hs5, gr5⟩
      have dc5 := dc.svs (sv_grown gr5) (by omega)
      have zr5 := Blk.svs zr (sv_grown gr5) (by simp; omega)
      have sv5 := sv.trans (sv_grown gr5)
      clear dc zr sv hs gr5 x0
      have x5 := dc5.x.cell 0
      simp at x5
      obtain ⟨g, rfl⟩ := dc5.some
      cases B with
      | true =>
        have x5d : w5.drew.cell? ⟨X, 0, none⟩ = some (.slice (some ⟨g, 0, none⟩) vn vc) := x5
        have dc5d := dc5.keep (Below.refl w5.heap.size w5).drew
        have hs5d := hs5.keep (Below.refl w5.heap.size w5).drew
        have zr5d := zr5.keep (Below.refl w5.heap.size w5).drew
        have sv5d := sv5.trans (Below.sv (Below.refl w5.heap.size w5).drew [gc])
        go_wp2
        go_region_with (
          (go_at_call 43; (with_reducible refine (below_step gc n cap a zs vn w5.drew hs5d (by omega) (by omega)).mono ?_); rintro e w6 ⟨k, rfl, hk, hs6, gr6⟩; have dc6 := dc5d.svs (sv_grown gr6) (by omega); have hki : (k : Int) < (vn : Int) := (by omega); obtain ⟨b, hb, v0, vf, x6⟩ := dc6.bk k hk; skip))
        all_goals (
          have hgn := dc6.bs.new g (fpBs_row rfl)
          have hgX : X ≠ g := fun e => dc6.xf (e ▸ fpBs_row rfl)
          have hbd : BkOk (⟨b.ps.map PgR.D, b.wear, true⟩ : BkD) := by
            have hb1 : BkOk b.D := dc6.ok.2.2 _ (by rw [← dc6.bs.D]; exact List.mem_map_of_mem (List.mem_of_getElem? hb))
            exact hb1
          have dc7 : DC W0 (w6.setCell ⟨g, k * 3 + 2, none⟩ (.bool true)) X (ds.set k ⟨b.ps.map PgR.D, b.wear, true⟩) (some ⟨g, 0, none⟩) vn vc (qs.set k ⟨b.a, b.cap, b.ps, b.wear, true⟩) := ⟨dc6.bs.bad dc6.n hb true, by rw [List.length_set]; exact dc6.n, ok_set dc6.ok hbd, dc6.x.other (B' := g) (by omega) _ _, fun hf => by
              rcases fp_put (S := X + 1) (q' := ⟨b.a, b.cap, b.ps, b.wear, true⟩) hb (fun i hi => .inl hi) X hf with h1 | h1
              · exact dc6.xf h1
              · omega, dc6.xn⟩
          have hbt7 : BytC (ds.set k ⟨b.ps.map PgR.D, b.wear, true⟩) := bytC_set hbt (by
            have hm : b.D ∈ ds := by rw [← dc6.bs.D]; exact List.mem_map_of_mem (List.mem_of_getElem? hb)
            exact fun p hp => hbt b.D hm p hp)
          have zr7 := ((Blk.svs zr5d (sv_grown gr6) (by simp; omega))).other (B' := g) (by omega) (k * 3 + 2) (.bool true)
          have hs7 := hs6.set (X := g) (i := k * 3 + 2) (v := .bool true) (by omega)
          have sv7 := sv_new (X := g) (i := k * 3 + 2) (v := .bool true) (sv5d.trans (sv_grown gr6)) (by have := HB0.out.size; omega)
          clear dc5d hs5d zr5d sv5d dc6 hs6 gr6 x5d v0 vf x6
          obtain ⟨W7, hW7⟩ : ∃ W, w6.setCell ⟨g, k * 3 + 2, none⟩ (.bool true) = W := ⟨_, rfl⟩
          rw [hW7] at dc7 zr7 hs7 sv7 ⊢
          clear hW7
          have fX := dc7.x.cell 0
          simp at fX
          have fH := zr7.cell 0
          have fF := zr7.frozen 0
          simp at fH
          have d0 := (zr7.set 0 (.slice (some ⟨g, 0, none⟩) vn vc)).cell 0
          simp at d0
          have HE : Hid (DrAb w gc n cap a zs (.returned (.agg #[.slice (some ⟨g, 0, none⟩) vn vc])) (W7.setCell ⟨H, 0, none⟩ (.slice (some ⟨g, 0, none⟩) vn vc))) := ⟨_, _, _, _, _, rfl, (dc7.bs.set_below (j := H) (by omega)).wider HB0.out.size, dc7.n, dc7.ok, hbt7, hs7.set (by omega), sv_new sv7 (by have := HH.out; omega)⟩
          clear dc5 zr5 sv5 hs5 x5
          go_wp2
          refine bodyPost_ret (v := .agg #[.slice (some ⟨g, 0, none⟩) vn vc]) (by simp [results, Tryz.f125, go_sem, d0]) rfl ?_
          rw [← HGP.out]
          exact HE.out)
      | false =>
        have fX := dc5.x.cell 0
        simp at fX
        have fH := zr5.cell 0
        have fF := zr5.frozen 0
        simp at fH
        have d0 := (zr5.set 0 (.slice (some ⟨g, 0, none⟩) vn vc)).cell 0
        simp at d0
        have HE : Hid (DrAb w gc n cap a zs (.returned (.agg #[.slice (some ⟨g, 0, none⟩) vn vc])) (w5.setCell ⟨H, 0, none⟩ (.slice (some ⟨g, 0, none⟩) vn vc))) := ⟨_, _, _, _, _, rfl, (dc5.bs.set_below (j := H) (by omega)).wider HB0.out.size, dc5.n, dc5.ok, hbt, hs5.set (by omega), sv_new sv5 (by have := HH.out; omega)⟩
        clear dc5 zr5 sv5 hs5 x5
        go_wp2
        refine bodyPost_ret (v := .agg #[.slice (some ⟨g, 0, none⟩) vn vc]) (by simp [results, Tryz.f125, go_sem, d0]) rfl ?_
        rw [← HGP.out]
        exact HE.out
end

section
open Go.RowKit
theorem q_set {ps : List PgR} {k : Nat} {x : PgR} (h : 0 < ps.length ∧ ∀ p ∈ ps, Byt p.zs ∧ p.zs.length ≤ p.cap) (hx : Byt x.zs ∧ x.zs.length ≤ x.cap) : 0 < (ps.set k x).length ∧ ∀ p ∈ ps.set k x, Byt p.zs ∧ p.zs.length ≤ p.cap :=
  ⟨by rw [List.length_set]; exact h.1, fun p hp => by
    rcases List.mem_or_eq_of_mem_set hp with h1 | h1
    · exact h.2 p h1
    · subst h1; exact hx⟩
theorem q_drop {ps : List PgR} {k : Nat} (h : 0 < ps.length ∧ ∀ p ∈ ps, Byt p.zs ∧ p.zs.length ≤ p.cap) (hl : 0 < (ps.drop k).length) : 0 < (ps.drop k).length ∧ ∀ p ∈ ps.drop k, Byt p.zs ∧ p.zs.length ≤ p.cap := ⟨hl, fun p hp => h.2 p (List.mem_of_mem_drop hp)⟩
theorem byt_1 : Byt [1] ∧ ([1] : List Int).length ≤ 1 := ⟨fun z hz => by simp at hz; omega, Nat.le_refl _⟩
/-- What l10Any answers. -/
def DyA2 (w : World) (gc n cap : Nat) (a : Option Addr) (zs : List Int) (e : Ending) (w' : World) : Prop := ∃ va vn vc qs, e = .returned (.agg #[.slice va vn vc]) ∧ ACR w.heap.size w' va vn qs ∧ PgV vn qs ∧ Src w' gc n cap a zs ∧ Sv [gc] w w'
/-- What is known behind the ways. -/
def DyC2 (w wx : World) (B H X gc n cap : Nat) (a : Option Addr) (zs : List Int) : Prop := ∃ va vn vc qs, Blk wx X 26 #[.slice va vn vc] ∧ ACR B wx va vn qs ∧ PgV vn qs ∧ Src wx gc n cap a zs ∧ Sv [gc] w wx ∧ Blk wx H 26 #[.slice none 0 0]
set_option maxRecDepth 100000 in
set_option maxHeartbeats 16000000 in
theorem l10AnyS2 (gc n cap : Nat) (a : Option Addr) (zs : List Int) (w : World) (h : Src w gc n cap a zs) :
    Calls Tryz.prog 91 #[.pointer (some ⟨gc, 0, none⟩)] w (DyA2 w gc n cap a zs) := by
  have hgc := h.cur.lt
  have B0 : Below w.heap.size w (w.alloc (.cells #[.slice none 0 0] 26)) := (Below.refl _ w).alloc (Nat.le_refl _) _
  have z0 := Blk.new w 26 #[.slice none 0 0]
  have h0 := h.keep B0
  generalize hGP : DyA2 w gc n cap a zs = P
  have HGP : Hid _ := hGP
  clear hGP h
  obtain ⟨H, hH⟩ : ∃ H, w.heap.size = H := ⟨_, rfl⟩
  have HH : Hid _ := hH
  rw [hH] at z0
  go_enter Tryz.func91, Tryz.ntmps91
  go_wp2_with fail
  obtain ⟨W0, hW0⟩ : ∃ W, w.alloc (.cells #[.slice none 0 0] 26) = W := ⟨_, rfl⟩
  rw [hW0] at B0 z0 h0 ⊢
  try rw [hH]
  clear hW0
  have hgH : gc < H := by omega
  have HB0 : Hid (Below w.heap.size w W0) := B0
  have hW0s : H < W0.heap.size := z0.lt
  clear B0 hH
  refine (l10DrawB gc n cap a zs W0 h0).mono ?_
  rintro e w2 ⟨va, vn, vc, qs, ds, rfl, hq, hl, hok, hbt, hs2, sv2⟩
  have z2 := Blk.svs z0 sv2 (by simp; omega)
  have hdl : ds.length = vn := by rw [← hq.len, hl]
  have hvn : 3 ≤ vn ∧ vn ≤ 24 := by have := hok.1; have := hok.2.1; omega
  obtain ⟨g, rfl⟩ : ∃ g, va = some ⟨g, 0, none⟩ := by
    rcases (show OwnE bkE 42 w2 (.slice va vn vc) qs.length qs from hq.own.1).cases with ⟨_, _, h0⟩ | ⟨g, c, h0, _⟩
    · rw [h0] at hl
      simp at hl
      omega
    · simp only [Value.slice.injEq] at h0
      exact ⟨g, h0.1⟩
  have b3 : Below w2.heap.size w2 (w2.alloc (.cells #[.slice (some ⟨g, 0, none⟩) vn vc] 26)) := (Below.refl _ _).alloc (Nat.le_refl _) _
  have zX := Blk.new w2 26 #[.slice (some ⟨g, 0, none⟩) vn vc]
  have hXf : w2.heap.size ∉ fpBs (.slice (some ⟨g, 0, none⟩) vn vc) qs := fun hf => by have := hq.own.lt _ hf; omega
  obtain ⟨X, hX⟩ : ∃ X, w2.heap.size = X := ⟨_, rfl⟩
  have dc3 : DC W0 (w2.alloc (.cells #[.slice (some ⟨g, 0, none⟩) vn vc] 26)) X ds (some ⟨g, 0, none⟩) vn vc qs := ⟨hq.keep b3, hl, hok, by rw [← hX]; exact zX, by rw [← hX]; exact hXf, by have := sv2.size; omega⟩
  have h3 := hs2.keep b3
  have z3 := z2.keep b3
  have sv3 : Sv [gc] w (w2.alloc (.cells #[.slice (some ⟨g, 0, none⟩) vn vc] 26)) := ((Below.sv HB0.out _).trans sv2).trans (Below.sv b3 _)
  have hXH : H < X := by have := sv2.size; omega
  clear zX hq b3 z0 z2 h0 hs2 sv2 hXf hok
  go_wp2_with fail
  obtain ⟨W3, hW3⟩ : ∃ W, w2.alloc (.cells #[.slice (some ⟨g, 0, none⟩) vn vc] 26) = W := ⟨_, rfl⟩
  rw [hW3] at dc3 h3 z3 sv3 ⊢
  try rw [hX]
  clear hW3 hX
  refine (below_step gc n cap a zs vn W3 h3 (by omega) (by omega)).mono ?_
  rintro e w4 ⟨k, rfl, hk, h4, gr4⟩
  have hki : (k : Int) < (vn : Int) := by omega
  have dc4 := dc3.svs (sv_grown gr4) (by omega)
  have z4 := Blk.svs z3 (sv_grown gr4) (by simp; omega)
  have sv4 := sv3.trans (sv_grown gr4)
  clear dc3 z3 sv3 h3 gr4
  go_wp2_with fail
  refine (below_step gc n cap a zs 16 w4 h4 (by omega) (by omega)).mono ?_
  rintro e w5 ⟨y, rfl, hy, h5, gr5⟩
  have dc5 := dc4.svs (sv_grown gr5) (by omega)
  have z5 := Blk.svs z4 (sv_grown gr5) (by simp; omega)
  have sv5 := sv4.trans (sv_grown gr5)
  clear dc4 z4 sv4 h4 gr5
  obtain ⟨b, hb⟩ : ∃ b, qs[k]? = some b := ⟨_, List.getElem?_eq_getElem (by omega)⟩
  have hbok : BkOk b.D := dc5.ok.2.2 _ (by rw [← dc5.bs.D]; exact List.mem_map_of_mem (List.mem_of_getElem? hb))
  have hb8 : b.ps.length = 8 := by have := hbok.1; simpa [BkR.D] using this
  have HPN : Hid (∀ q ∈ qs, 0 < q.ps.length ∧ ∀ p ∈ q.ps, Byt p.zs ∧ p.zs.length ≤ p.cap) := (PgV.of (vn := vn) (by omega) dc5.bs.D dc5.ok hbt dc5.bs.caps).2
  have htot := ok_tot2 dc5.ok
  have hHB : H < W0.heap.size := hW0s
  have hHw := HH.out
  have hbD : ds[k]? = some b.D := by rw [← dc5.bs.D, List.getElem?_map, hb]; rfl
  obtain ⟨Pb, hPb⟩ := pg_some dc5.bs hb (by omega)
  have hOw : OwnE bkE 42 w5 (.slice (some ⟨g, 0, none⟩) vn vc) vn qs := by have := dc5.bs.own.1; rw [dc5.n] at this; exact this
  have v0 : w5.cell? ⟨g, k * 3, none⟩ = some (.slice (some ⟨Pb, 0, none⟩) 8 b.cap) := by rw [← hPb, ← hb8]; exact hOw.cell k 0 b hb (by decide)
  have hvc : vn ≤ vc := ownE_cap hOw
  have hPf : Pb ∈ fpBs (.slice (some ⟨g, 0, none⟩) vn vc) qs := fpBs_bk (List.mem_of_getElem? hb) (fpPs_row (by unfold BkR.v; rw [hPb]; rfl))
  have hPX : X ≠ Pb := fun e => dc5.xf (e ▸ hPf)
  have hgX : X ≠ g := fun e => dc5.xf (e ▸ fpBs_row rfl)
  have hPn := dc5.bs.new Pb hPf
  have hgn := dc5.bs.new g (fpBs_row rfl)
  obtain ⟨p7, hp7⟩ : ∃ p, b.ps[7]? = some p := ⟨_, List.getElem?_eq_getElem (by omega)⟩
  have hPs := pg_row dc5.bs hb hPb
  have hb8c : 8 ≤ b.cap := by have := ownE_cap hPs; omega
  have hgH2 : w.heap.size ≤ H := by omega
  have x5 := dc5.x.cell 0
  simp at x5
  go_upto_block 0 with fail
  go_cut [14] (fun _ wx => DyC2 w wx W0.heap.size H X gc n cap a zs)
  case first =>
    have hyc : y = 0 ∨ y = 1 ∨ y = 2 ∨ y = 3 ∨ y = 4 ∨ 5 ≤ y := by omega
    rcases hyc with rfl | rfl | rfl | rfl | rfl | hy5
    · -- the wear
      have hD5 : Below w5.heap.size w5 (w5.alloc (.cells #[.int .i64 (-1), .int .i64 100000, .int .i64 100001] 3)).drew := ((Below.refl _ w5).alloc (Nat.le_refl _) _).drew
      have dS := dc5.keep hD5
      have hS := h5.keep hD5
      have zS := z5.keep hD5
      have svS := sv5.trans (Below.sv hD5 _)
      have xS := dS.x.cell 0
      simp at xS
      have hlt5 := h5.cur.lt
      have hcI := int_step gc n cap a zs w5.heap.size 3 [-1, 100000, 100001] _ hS rfl (by omega) (by omega) (by omega) (fun j hj => ints_cells w5 [-1, 100000, 100001] 3 j hj)
      have hcI' := int_step gc n cap a zs w5.heap.size 3 [-1, 100000, 100001] _ (h5.alloc (.cells #[.int .i64 (-1), .int .i64 100000, .int .i64 100001] 3)) rfl (by omega) (by omega) (by omega) (fun j hj => ints_cells w5 [-1, 100000, 100001] 3 j hj)
      go_upto_region 5 with fail
      go_region_law (first
        | (go_simp; go_at_call 65; (with_reducible refine hcI.mono ?_); rintro e w6 ⟨k5, rfl, hk5, s6, g6⟩; obtain ⟨iq, hiq⟩ : ∃ z, ([-1, 100000, 100001] : List Int).getD k5 0 = z := ⟨_, rfl⟩; rw [hiq]; clear hiq; have d6 := dS.svs (sv_grown g6) (by omega); have z6 := Blk.svs zS (sv_grown g6) (by simp; omega); have sv6 := svS.trans (sv_grown g6); have x6 := d6.x.cell 0; (simp at x6); have hO6 : OwnE bkE 42 w6 (.slice (some ⟨g, 0, none⟩) vn vc) vn qs := (by have := d6.bs.own.1; rw [d6.n] at this; exact this); have q6 := hO6.cell k 1 b hb (by decide); have qf6 := hO6.frozen (k * 3 + 1); (simp [bkE] at q6); dsimp only)
        | fail)
      all_goals
        have bs7 := d6.bs.wear d6.n hb iq
        have a7 := bs7.acr (by rw [List.length_set]; exact d6.n) (Nat.le_trans (totB_set ds k b.D _ hbD (Nat.le_refl _)) (by omega))
        have x7 := d6.x.other (B' := g) (Ne.symm hgX |> fun h e => h e.symm) (k * 3 + 1) (.int .i64 iq)
        have z7 := z6.other (B' := g) (by omega) (k * 3 + 1) (.int .i64 iq)
        have h7 := s6.set (X := g) (i := k * 3 + 1) (v := .int .i64 iq) (by omega)
        have sv7 := sv_new (X := g) (i := k * 3 + 1) (v := .int .i64 iq) sv6 (by omega)
        have HE : Hid (DyC2 w (w6.setCell ⟨g, k * 3 + 1, none⟩ (.int .i64 iq)) W0.heap.size H X gc n cap a zs) := ⟨_, _, _, _, x7, a7, ⟨by omega, by
          intro q hq
          first
            | exact HPN.out q hq
            | exact HPN.out q (List.mem_of_mem_take hq)
            | (rcases List.mem_or_eq_of_mem_set hq with h | h
               · exact HPN.out q h
               · subst h; first | exact HPN.out b (List.mem_of_getElem? hb) | exact q_set (HPN.out b (List.mem_of_getElem? hb)) ((HPN.out b (List.mem_of_getElem? hb)).2 p7 (List.mem_of_getElem? hp7)) | exact q_set (HPN.out b (List.mem_of_getElem? hb)) byt_1 | exact q_drop (HPN.out b (List.mem_of_getElem? hb)) (by omega))⟩, h7, sv7, z7⟩
        clear bs7 a7 x7 z7 h7 sv7
        go_wp2_with fail
        go_meet
        exact HE.out
    · -- a page that says that it is written
      have q0 : w5.cell? ⟨Pb, 14, none⟩ = some (.bool p7.used) := hPs.cell 7 0 p7 hp7 (by decide)
      have qf : w5.frozen? ⟨Pb, 14, none⟩ = false := hPs.frozen 14
      have bs7 := dc5.bs.used dc5.n hb hPb hp7
      have a7 := bs7.acr (by rw [List.length_set]; exact dc5.n) (Nat.le_trans (totB_set ds k b.D _ hbD (totP_same (p := p7.D) (by rw [List.getElem?_map, hp7]; rfl) (Nat.le_refl _))) (by omega))
      have x7 := dc5.x.other (B' := Pb) hPX 14 (.bool true)
      have z7 := z5.other (B' := Pb) (by omega) 14 (.bool true)
      have h7 := h5.set (X := Pb) (i := 14) (v := .bool true) (by omega)
      have sv7 := sv_new (X := Pb) (i := 14) (v := .bool true) sv5 (by omega)
      have HE : Hid (DyC2 w (w5.setCell ⟨Pb, 14, none⟩ (.bool true)) W0.heap.size H X gc n cap a zs) := ⟨_, _, _, _, x7, a7, ⟨by omega, by
          intro q hq
          first
            | exact HPN.out q hq
            | exact HPN.out q (List.mem_of_mem_take hq)
            | (rcases List.mem_or_eq_of_mem_set hq with h | h
               · exact HPN.out q h
               · subst h; first | exact HPN.out b (List.mem_of_getElem? hb) | exact q_set (HPN.out b (List.mem_of_getElem? hb)) ((HPN.out b (List.mem_of_getElem? hb)).2 p7 (List.mem_of_getElem? hp7)) | exact q_set (HPN.out b (List.mem_of_getElem? hb)) byt_1 | exact q_drop (HPN.out b (List.mem_of_getElem? hb)) (by omega))⟩, h7, sv7, z7⟩
      clear dc5 z5 sv5 h5 bs7 a7 x7 z7 h7 sv7
      go_wp2_with fail
      go_meet
      exact HE.out
    · -- a page of other bytes
      have b6 : Below w5.heap.size w5 (w5.alloc (.cells #[.int .u8 1] 5)) := (Below.refl _ w5).alloc (Nat.le_refl _) _
      have q0 : (w5.alloc (.cells #[.int .u8 1] 5)).cell? ⟨Pb, 15, none⟩ = some p7.v := (OwnE.keep hPs b6).cell 7 1 p7 hp7 (by decide)
      have qf : (w5.alloc (.cells #[.int .u8 1] 5)).frozen? ⟨Pb, 15, none⟩ = false := (OwnE.keep hPs b6).frozen 15
      have bs7 := dc5.bs.bytes dc5.n hb hPb hp7 b6 rfl (rowB_one w5 1) (Nat.le_refl _) (fun j hj => by simp [Value.ownBlock] at hj; omega)
      have htp : totP b.D.ps ≤ totB ds := totP_leB (List.mem_of_getElem? hbD)
      have a7 := bs7.acr (by rw [List.length_set]; exact dc5.n) (by
        have h1 := totB_setY ds k ⟨(b.ps.map PgR.D).set 7 ⟨p7.used, [1]⟩, b.wear, b.bad⟩
        have h2 := totP_setY (b.ps.map PgR.D) 7 ⟨p7.used, [1]⟩
        have h3 : totP (b.ps.map PgR.D) ≤ totB ds := htp
        have h4 : ([1] : List Int).length = 1 := rfl
        dsimp only at h1 h2
        omega)
      have x7 := (dc5.x.keep b6).other (B' := Pb) hPX 15 (.slice (some ⟨w5.heap.size, 0, none⟩) 1 1)
      have z7 := (z5.keep b6).other (B' := Pb) (by omega) 15 (.slice (some ⟨w5.heap.size, 0, none⟩) 1 1)
      have h7 := (h5.keep b6).set (X := Pb) (i := 15) (v := .slice (some ⟨w5.heap.size, 0, none⟩) 1 1) (by omega)
      have sv7 := sv_new (X := Pb) (i := 15) (v := .slice (some ⟨w5.heap.size, 0, none⟩) 1 1) (sv5.trans (Below.sv b6 _)) (by omega)
      have HE : Hid (DyC2 w ((w5.alloc (.cells #[.int .u8 1] 5)).setCell ⟨Pb, 15, none⟩ (.slice (some ⟨w5.heap.size, 0, none⟩) 1 1)) W0.heap.size H X gc n cap a zs) := ⟨_, _, _, _, x7, a7, ⟨by omega, by
          intro q hq
          first
            | exact HPN.out q hq
            | exact HPN.out q (List.mem_of_mem_take hq)
            | (rcases List.mem_or_eq_of_mem_set hq with h | h
               · exact HPN.out q h
               · subst h; first | exact HPN.out b (List.mem_of_getElem? hb) | exact q_set (HPN.out b (List.mem_of_getElem? hb)) ((HPN.out b (List.mem_of_getElem? hb)).2 p7 (List.mem_of_getElem? hp7)) | exact q_set (HPN.out b (List.mem_of_getElem? hb)) byt_1 | exact q_drop (HPN.out b (List.mem_of_getElem? hb)) (by omega))⟩, h7, sv7, z7⟩
      clear dc5 z5 sv5 h5 bs7 a7 x7 z7 h7 sv7 b6
      go_wp2_with fail
      go_meet
      exact HE.out
    · -- a page less
      have qf := hOw.frozen (k * 3)
      have hd7 : (b.ps.drop 1).length = 7 := by rw [List.length_drop]; omega
      have D0 := (Below.refl w5.heap.size w5).drew
      have hcut := (dc5.bs.keep D0).cut (cp := b.cap - 1) dc5.n hb hPb (by omega)
      rw [hd7] at hcut
      have x7 := (dc5.x.keep D0).other (B' := g) hgX (k * 3) (.slice (some ⟨Pb, 2, none⟩) 7 (b.cap - 1))
      have z7 := (z5.keep D0).other (B' := g) (by omega) (k * 3) (.slice (some ⟨Pb, 2, none⟩) 7 (b.cap - 1))
      have h7 := (h5.keep D0).set (X := g) (i := k * 3) (v := .slice (some ⟨Pb, 2, none⟩) 7 (b.cap - 1)) (by omega)
      have sv7 := sv_new (X := g) (i := k * 3) (v := .slice (some ⟨Pb, 2, none⟩) 7 (b.cap - 1)) (sv5.trans (Below.sv D0 _)) (by omega)
      have xd : w5.drew.cell? ⟨X, 0, none⟩ = some (.slice (some ⟨g, 0, none⟩) vn vc) := x5
      have vd : w5.drew.cell? ⟨g, k * 3, none⟩ = some (.slice (some ⟨Pb, 0, none⟩) 8 b.cap) := v0
      have HE : Hid (DyC2 w (w5.drew.setCell ⟨g, k * 3, none⟩ (.slice (some ⟨Pb, 2, none⟩) 7 (b.cap - 1))) W0.heap.size H X gc n cap a zs) := ⟨_, _, _, _, x7, hcut, ⟨by omega, by
          intro q hq
          first
            | exact HPN.out q hq
            | exact HPN.out q (List.mem_of_mem_take hq)
            | (rcases List.mem_or_eq_of_mem_set hq with h | h
               · exact HPN.out q h
               · subst h; first | exact HPN.out b (List.mem_of_getElem? hb) | exact q_set (HPN.out b (List.mem_of_getElem? hb)) ((HPN.out b (List.mem_of_getElem? hb)).2 p7 (List.mem_of_getElem? hp7)) | exact q_set (HPN.out b (List.mem_of_getElem? hb)) byt_1 | exact q_drop (HPN.out b (List.mem_of_getElem? hb)) (by omega))⟩, h7, sv7, z7⟩
      clear dc5 z5 sv5 h5 x7 z7 h7 sv7 hcut D0
      go_upto_region 11 with fail
      go_region_with fail
      all_goals (go_wp2_with fail; go_meet; exact HE.out)
    · -- two blocks alone
      have c0 := dc5.x.cell 0
      have f0 := dc5.x.frozen 0
      simp at c0
      have hv2 : 2 ≤ vc := by omega
      have x7 := dc5.x.set 0 (.slice (some ⟨g, 0, none⟩) 2 vc)
      have z7 := z5.other (B' := X) (by omega) 0 (.slice (some ⟨g, 0, none⟩) 2 vc)
      have bsF := dc5.bs.svs (sv_at (F := [X]) (X := X) w5 (i := 0) (v := .slice (some ⟨g, 0, none⟩) 2 vc) (by simp)) (fun j hj hf => by
        simp at hf
        subst hf
        exact dc5.xf hj)
      have a7 := (bsF.acr dc5.n (by omega)).take 2 (by omega)
      have h7 := h5.set (X := X) (i := 0) (v := .slice (some ⟨g, 0, none⟩) 2 vc) (by omega)
      have sv7 := sv_new (X := X) (i := 0) (v := .slice (some ⟨g, 0, none⟩) 2 vc) sv5 (by omega)
      have HE : Hid (DyC2 w (w5.setCell ⟨X, 0, none⟩ (.slice (some ⟨g, 0, none⟩) 2 vc)) W0.heap.size H X gc n cap a zs) := ⟨_, _, _, _, x7, a7, ⟨by omega, by
          intro q hq
          first
            | exact HPN.out q hq
            | exact HPN.out q (List.mem_of_mem_take hq)
            | (rcases List.mem_or_eq_of_mem_set hq with h | h
               · exact HPN.out q h
               · subst h; first | exact HPN.out b (List.mem_of_getElem? hb) | exact q_set (HPN.out b (List.mem_of_getElem? hb)) ((HPN.out b (List.mem_of_getElem? hb)).2 p7 (List.mem_of_getElem? hp7)) | exact q_set (HPN.out b (List.mem_of_getElem? hb)) byt_1 | exact q_drop (HPN.out b (List.mem_of_getElem? hb)) (by omega))⟩, h7, sv7, z7⟩
      clear dc5 z5 sv5 h5 x7 z7 bsF a7 h7 sv7
      go_wp2_with fail
      go_meet
      exact HE.out
    · have hy0 : ((y : Int) == 0) = false := by simp; omega
      have hy1 : ((y : Int) == 1) = false := by simp; omega
      have hy2 : ((y : Int) == 2) = false := by simp; omega
      have hy3 : ((y : Int) == 3) = false := by simp; omega
      have hy4 : ((y : Int) == 4) = false := by simp; omega
      have a7 := dc5.bs.acr dc5.n (by omega)
      have HE : Hid (DyC2 w w5 W0.heap.size H X gc n cap a zs) := ⟨_, _, _, _, dc5.x, a7, ⟨by omega, by
          intro q hq
          first
            | exact HPN.out q hq
            | exact HPN.out q (List.mem_of_mem_take hq)
            | (rcases List.mem_or_eq_of_mem_set hq with h | h
               · exact HPN.out q h
               · subst h; first | exact HPN.out b (List.mem_of_getElem? hb) | exact q_set (HPN.out b (List.mem_of_getElem? hb)) ((HPN.out b (List.mem_of_getElem? hb)).2 p7 (List.mem_of_getElem? hp7)) | exact q_set (HPN.out b (List.mem_of_getElem? hb)) byt_1 | exact q_drop (HPN.out b (List.mem_of_getElem? hb)) (by omega))⟩, h5, sv5, z5⟩
      clear dc5 z5 sv5 h5 a7
      go_wp2_with fail
      go_meet
      exact HE.out
  case rest =>
  obtain ⟨va', vn', vc', qs', xc, ac, hl', hs6, sv6, z6⟩ := hcut
  obtain ⟨w6, hwc⟩ : ∃ W, W = wc := ⟨_, rfl⟩
  subst hwc
  have fX := xc.cell 0
  simp at fX
  have fH := z6.cell 0
  have fF := z6.frozen 0
  simp at fH
  have d0 := (z6.set 0 (.slice va' vn' vc')).cell 0
  simp at d0
  have HE : Hid (DyA2 w gc n cap a zs (.returned (.agg #[.slice va' vn' vc'])) (w6.setCell ⟨H, 0, none⟩ (.slice va' vn' vc'))) := ⟨_, _, _, _, rfl, (ac.far hHB _).less (by omega), hl', hs6.set (by omega), sv_new sv6 (by omega)⟩
  clear dc5 z5 sv5 h5 x5 xc ac hs6 sv6 z6 hPs hOw v0
  go_wp2
  refine bodyPost_ret (v := .agg #[.slice va' vn' vc']) (by simp [results, Tryz.f91, go_sem, d0]) rfl ?_
  rw [← HGP.out]
  exact HE.out
end

section
open Go.RowKit
/-- A list that a draw takes of. -/
def Lst (W : World) (gc m : Nat) (t : TypeId) (cs : Array Value) (u : Value) : Prop := ∃ g : Nat, u = .slice (some ⟨g, 0, none⟩) m m ∧ g ≠ gc ∧ Blk W g t cs
theorem Lst.alloc {W : World} {gc m : Nat} {t : TypeId} {cs : Array Value} {u : Value} (h : Lst W gc m t cs u) (o : Obj) : Lst (W.alloc o) gc m t cs u := by obtain ⟨g, h1, h2, h3⟩ := h; exact ⟨g, h1, h2, h3.alloc o⟩
theorem blk_kept {W W' : World} {gc g : Nat} {t : TypeId} {cs : Array Value} (h : Blk W g t cs) (hg : W.grownBy W' (some gc)) (hne : g ≠ gc) : Blk W' g t cs := Blk.svs h (sv_grown hg) (by simpa using hne)
theorem Lst.step {W W' : World} {gc m : Nat} {t : TypeId} {cs : Array Value} {u : Value} (h : Lst W gc m t cs u) (hg : W.grownBy W' (some gc)) : Lst W' gc m t cs u := by obtain ⟨g, h1, h2, h3⟩ := h; exact ⟨g, h1, h2, blk_kept h3 hg h2⟩
/-- A list of one fault. -/
def OneF (W : World) (gc : Nat) (u : Value) : Prop := ∃ (g : Nat) (p : FtD), u = .slice (some ⟨g, 0, none⟩) 1 1 ∧ g ≠ gc ∧ Blk W g 51 #[.int .i64 p.tm, .int .i64 p.kd, .int .i64 p.kp]
theorem OneF.alloc {W : World} {gc : Nat} {u : Value} (h : OneF W gc u) (o : Obj) : OneF (W.alloc o) gc u := by obtain ⟨g, p, h1, h2, h3⟩ := h; exact ⟨g, p, h1, h2, h3.alloc o⟩
theorem OneF.step {W W' : World} {gc : Nat} {u : Value} (h : OneF W gc u) (hg : W.grownBy W' (some gc)) : OneF W' gc u := by obtain ⟨g, p, h1, h2, h3⟩ := h; exact ⟨g, p, h1, h2, blk_kept h3 hg h2⟩
theorem tri_cell3 (x y z : Int) (k : Nat) (h : k < 3) : (#[.int .i64 x, .int .i64 y, .int .i64 z] : Array Value)[k]? = some (.int .i64 (([x, y, z] : List Int).getD k 0)) := by
  rcases (show k = 0 ∨ k = 1 ∨ k = 2 by omega) with rfl | rfl | rfl <;> rfl
/-- What the operations yield: ahead of the append, and behind it. -/
def JD (w : World) (gc n cap : Nat) (a : Option Addr) (zs : List Int) (X : Nat) (D : DvD) (va : Option Addr) (vn vc : Nat) (fa : Option Addr) (m fc : Nat) (qs : List BkR) : Bool → Nat → Value → World → Prop
  | false, 0, u, _ => u = .pointer (some ⟨X, 2, none⟩)
  | false, 1, u, _ => u = .slice fa m fc
  | false, 2, u, _ => u = .pointer (some ⟨gc, 0, none⟩)
  | false, 3, u, W => Lst W gc 3 3 #[.int .i64 0, .int .i64 100000, .int .i64 100001] u
  | false, 4, u, _ => ∃ q, u = .int .i64 q
  | false, 5, u, _ => u = .pointer (some ⟨gc, 0, none⟩)
  | false, 6, u, _ => ∃ q, u = .int .i64 q
  | false, 7, u, _ => u = .pointer (some ⟨gc, 0, none⟩)
  | false, 8, u, W => Lst W gc 3 3 #[.int .i64 (-1), .int .i64 0, .int .i64 401] u
  | false, 9, u, _ => ∃ q, u = .int .i64 q
  | false, 10, u, _ => ∃ p : FtD, u = .agg #[.int .i64 p.tm, .int .i64 p.kd, .int .i64 p.kp]
  | false, 11, u, W => OneF W gc u
  | true, 12, u, W => ∃ (g c : Nat) (p : FtD), u = .slice (some ⟨g, 0, none⟩) (m + 1) c ∧ XG w W gc n cap a zs X #[.slice va vn vc, .int .i64 D.ops, .slice fa m fc, .bool D.down] D va vn vc qs g c (m + 1) p
  | true, 13, u, _ => u = .pointer (some ⟨X, 2, none⟩)
  | _, _, _, _ => True
def SD (w : World) (gc n cap : Nat) (a : Option Addr) (zs : List Int) (X : Nat) (D : DvD) (va : Option Addr) (vn vc : Nat) (fa : Option Addr) (m fc : Nat) (qs : List BkR) : Bool → World → Prop
  | false, W => XL w W gc n cap a zs X 29 #[.slice none 0 0, .int .i64 0, .slice none 0 0, .bool false] #[.slice va vn vc, .int .i64 D.ops, .slice fa m fc, .bool D.down] D va vn vc fa m fc qs
  | true, _ => True
theorem JD.alloc {w W : World} {gc n cap : Nat} {a : Option Addr} {zs : List Int} {X : Nat} {D : DvD} {va : Option Addr} {vn vc : Nat} {fa : Option Addr} {m fc : Nat} {qs : List BkR} (o : Obj) : ∀ (j : Nat) (u : Value), JD w gc n cap a zs X D va vn vc fa m fc qs false j u W → JD w gc n cap a zs X D va vn vc fa m fc qs false j u (W.alloc o)
  | 0, _, h => h
  | 1, _, h => h
  | 2, _, h => h
  | 3, _, h => Lst.alloc h o
  | 4, _, h => h
  | 5, _, h => h
  | 6, _, h => h
  | 7, _, h => h
  | 8, _, h => Lst.alloc h o
  | 9, _, h => h
  | 10, _, h => h
  | 11, _, h => OneF.alloc h o
  | _ + 12, _, _ => trivial
theorem JD.behind {w W : World} {gc n cap : Nat} {a : Option Addr} {zs : List Int} {X : Nat} {D : DvD} {va : Option Addr} {vn vc : Nat} {fa : Option Addr} {m fc : Nat} {qs : List BkR} (j : Nat) (u : Value) (h1 : j ≠ 12) (h2 : j ≠ 13) : JD w gc n cap a zs X D va vn vc fa m fc qs true j u W := by
  unfold JD
  split <;> first | trivial | (exact absurd rfl h1) | (exact absurd rfl h2) | simp_all
theorem JD.step {w W : World} {gc n cap : Nat} {a : Option Addr} {zs : List Int} {X : Nat} {D : DvD} {va : Option Addr} {vn vc : Nat} {fa : Option Addr} {m fc : Nat} {qs : List BkR} {W' : World} (hg : W.grownBy W' (some gc)) : ∀ (j : Nat) (u : Value), JD w gc n cap a zs X D va vn vc fa m fc qs false j u W → JD w gc n cap a zs X D va vn vc fa m fc qs false j u W'
  | 0, _, h => h
  | 1, _, h => h
  | 2, _, h => h
  | 3, _, h => Lst.step h hg
  | 4, _, h => h
  | 5, _, h => h
  | 6, _, h => h
  | 7, _, h => h
  | 8, _, h => Lst.step h hg
  | 9, _, h => h
  | 10, _, h => h
  | 11, _, h => OneF.step h hg
  | _ + 12, _, _ => trivial
theorem row3_at {W : World} {g : Nat} {p : FtD} (h : Blk W g 51 #[.int .i64 p.tm, .int .i64 p.kd, .int .i64 p.kp]) : ∀ j u, ([.int .i64 p.tm, .int .i64 p.kd, .int .i64 p.kp] : List Value)[j]? = some u → W.cell? ((⟨g, 0, none⟩ : Addr).add j) = some u := fun j u hu => by
  have hj : j < 3 := by
    have := List.getElem?_eq_some_iff.1 hu
    obtain ⟨h1, _⟩ := this
    exact h1
  have h1 := h.cell j
  have e : (⟨g, 0, none⟩ : Addr).add j = ⟨g, j, none⟩ := by simp [Addr.add]; intro h; exact h.symm
  rw [e, h1, ← hu]
  rcases (show j = 0 ∨ j = 1 ∨ j = 2 by omega) with rfl | rfl | rfl <;> rfl
set_option maxRecDepth 100000 in
set_option maxHeartbeats 8000000 in
theorem l11AnyS (gc n cap : Nat) (a : Option Addr) (zs : List Int) (w : World) (h : Src w gc n cap a zs) :
    Calls Tryz.prog 41 #[.pointer (some ⟨gc, 0, none⟩)] w (Q11 w gc n cap a zs) := by
  have hgc := h.cur.lt
  have B0 : Below w.heap.size w (w.alloc (.cells #[.slice none 0 0, .int .i64 0, .slice none 0 0, .bool false] 29)) := (Below.refl _ w).alloc (Nat.le_refl _) _
  have h0 := h.keep B0
  have res0 : Blk (w.alloc (.cells #[.slice none 0 0, .int .i64 0, .slice none 0 0, .bool false] 29)) w.heap.size 29 #[.slice none 0 0, .int .i64 0, .slice none 0 0, .bool false] := Blk.new w _ _
  obtain ⟨ie, hie, ze0, ze1, ze2⟩ := info_parts Tryz.infoFault
  obtain ⟨P, hP⟩ : ∃ P, Q11 w gc n cap a zs = P := ⟨_, rfl⟩
  have HP : Hid _ := hP
  rw [hP]
  clear hP
  go_enter Tryz.func41, Tryz.ntmps41
  go_wp2_with fail
  obtain ⟨W0, hW0⟩ : ∃ W, w.alloc (.cells #[.slice none 0 0, .int .i64 0, .slice none 0 0, .bool false] 29) = W := ⟨_, rfl⟩
  rw [hW0] at B0 h0 res0 ⊢
  have hs0 : W0.heap.size = w.heap.size + 1 := by rw [← hW0]; simp
  clear hW0
  refine (l11DrawS gc n cap a zs W0 h0).mono ?_
  rintro e w1 ⟨D, va, vn, vc, fa, m, fc, qs, rfl, hnd, hql, hok, hbt, s1, sv1⟩
  have res1 : Blk w1 w.heap.size 29 _ := Blk.svs res0 sv1 (by simp; omega)
  have hsz1 := sv1.size
  have b4 : Below w1.heap.size w1 (w1.alloc (.cells #[.slice va vn vc, .int .i64 D.ops, .slice fa m fc, .bool D.down] 29)) := (Below.refl _ _).alloc (Nat.le_refl _) _
  have xr0 : XL w (w1.alloc (.cells #[.slice va vn vc, .int .i64 D.ops, .slice fa m fc, .bool D.down] 29)) gc n cap a zs w1.heap.size 29 #[.slice none 0 0, .int .i64 0, .slice none 0 0, .bool false] #[.slice va vn vc, .int .i64 D.ops, .slice fa m fc, .bool D.down] D va vn vc fa m fc qs :=
    ⟨s1.keep b4, ((Below.sv B0 _).trans sv1).trans (Below.sv b4 _), (hnd.keep b4).wider (by omega), hql, hok, res1.keep b4, hgc, by omega, Blk.new w1 _ _, fun hf => by have := hnd.lt _ hf; omega, hbt⟩
  have HM : Hid (m ≤ 20) := by
    have h4 := (devB_parts.1 hok).2.2
    unfold faultsB at h4
    simp at h4
    have := OwnE.len hnd.fs
    show m ≤ 20
    omega
  clear res0 h0 res1 s1 hnd sv1 B0 b4 hok hql
  go_wp2_with fail
  obtain ⟨W1, hW1⟩ : ∃ W, w1.alloc (.cells #[.slice va vn vc, .int .i64 D.ops, .slice fa m fc, .bool D.down] 29) = W := ⟨_, rfl⟩
  rw [hW1] at xr0 ⊢
  obtain ⟨X, hX⟩ : ∃ X, w1.heap.size = X := ⟨_, rfl⟩
  rw [hX] at xr0 ⊢
  clear hW1 hX
  refine (below_step gc n cap a zs 16 W1 xr0.src (by omega) (by omega)).mono ?_
  rintro e w2 ⟨x, rfl, hx, s2, g2⟩
  have xr := xr0.step s2 g2
  clear xr0 s2 g2 hsz1
  by_cases h0 : x = 0
  · subst h0
    have hcl : ∀ j, j < 3 → (w2.alloc (.cells #[.int .i64 (-1), .int .i64 100000, .int .i64 100001] 3)).cell? ⟨w2.heap.size, j, none⟩ = some (.int .i64 (([-1, 100000, 100001] : List Int).getD j 0)) := fun j hj => ints_cells w2 [-1, 100000, 100001] 3 j hj
    have HCL : Hid _ := hcl
    clear hcl
    have hgl := xr.sv.size
    have XRH : Hid (XL w w2 gc n cap a zs X 29 #[.slice none 0 0, .int .i64 0, .slice none 0 0, .bool false] #[.slice va vn vc, .int .i64 D.ops, .slice fa m fc, .bool D.down] D va vn vc fa m fc qs) := xr
    clear xr
    go_wp2_with fail
    refine (int_step gc n cap a zs w2.heap.size 3 [-1, 100000, 100001] _ (XRH.out.alloc _).src rfl (by omega) (by omega) (by omega) HCL.out).mono ?_
    rintro e w3 ⟨k, rfl, hk, s3, g3⟩
    generalize ([-1, 100000, 100001] : List Int).getD k 0 = q
    have x3 := (XRH.out.alloc _).step s3 g3
    have fb0 := x3.x.frozen 1
    obtain ⟨cb0, cb1, cb2, cb3⟩ := x3.x.dev
    have xf := x3.setX 1 (.int .i64 q)
    simp at xf
    clear s3 g3 HCL x3
    obtain ⟨q0, q1, q2, q3⟩ := xf.x.dev
    obtain ⟨r0, r1, r2, r3⟩ := xf.res.dev
    have f0 := xf.res.frozen 0
    have f1 := xf.res.frozen 1
    have f2 := xf.res.frozen 2
    have f3 := xf.res.frozen 3
    have zf := (((xf.res.set 0 (.slice va vn vc)).set 1 (.int .i64 q)).set 2 (.slice fa m fc)).set 3 (.bool D.down)
    simp at zf
    obtain ⟨s0, s1, s2, s3⟩ := zf.dev
    have HQ : Hid _ := xf.fin (ops := q) (down := D.down) (vc := vc) (fc := fc) (.slice va vn vc) (.int .i64 q) (.slice fa m fc) (.bool D.down)
    clear xf zf
    go_wp2
    refine bodyPost_ret (v := .agg #[.slice va vn vc, .int .i64 q, .slice fa m fc, .bool D.down]) (by simp [results, Tryz.f41, go_sem, s0, s1, s2, s3]) rfl ?_
    rw [← HP.out]
    exact HQ.out

  by_cases h1 : x = 1
  · subst h1
    rw [show ((1 : Nat) : Int) = 1 from rfl]
    go_upto_region 6 with fail
    refine wp_region_inv 14 12 14 (SD w gc n cap a zs X D va vn vc fa m fc qs) (JD w gc n cap a zs X D va vn vc fa m fc qs) (by kernel_rfl) (by kernel_rfl) (by kernel_rfl) (by kernel_rfl) (by decide) (by decide) 12 (by kernel_rfl) xr.drew ?step ?fin
    case step =>
      intro i hi hne
      clear xr
      rcases (show i = 0 ∨ i = 1 ∨ i = 2 ∨ i = 3 ∨ i = 4 ∨ i = 5 ∨ i = 6 ∨ i = 7 ∨ i = 8 ∨ i = 9 ∨ i = 10 ∨ i = 11 ∨ i = 12 ∨ i = 13 by omega) with rfl | rfl | rfl | rfl | rfl | rfl | rfl | rfl | rfl | rfl | rfl | rfl | rfl | rfl
      all_goals clear hi hne
      · intro o ho b a2 W hM hb1 hb0 hS hold hdep K hK
        simp only [List.getElem?_toArray, List.getElem?_cons_zero, Option.some.injEq] at ho
        subst ho
        clear hM
        obtain rfl : b = false := hb0 (by kernel_rfl)
        clear hb1 hb0
        have o3 : a2.tmps[3]? = some (.pointer (some ⟨X, 0, none⟩)) := hold 3 (by kernel_rfl)
        clear hdep hold
        go_simp
        exact hK _ _ hS rfl (fun _ _ _ _ h => h)
      · intro o ho b a2 W hM hb1 hb0 hS hold hdep K hK
        simp only [List.getElem?_toArray, List.getElem?_cons_zero, List.getElem?_cons_succ, Option.some.injEq] at ho
        subst ho
        clear hM
        obtain rfl : b = false := hb0 (by kernel_rfl)
        clear hb1 hb0
        obtain ⟨u0, e0, j0⟩ := hdep 0 (by kernel_rfl)
        have e0 := e0 16 (by kernel_rfl)
        have j0 : u0 = .pointer (some ⟨X, 2, none⟩) := j0
        clear hdep hold
        subst j0
        have c2 := hS.x.cell 2
        simp at c2
        go_simp
        exact hK _ _ hS rfl (fun _ _ _ _ h => h)
      · intro o ho b a2 W hM hb1 hb0 hS hold hdep K hK
        simp only [List.getElem?_toArray, List.getElem?_cons_zero, List.getElem?_cons_succ, Option.some.injEq] at ho
        subst ho
        clear hM
        obtain rfl : b = false := hb0 (by kernel_rfl)
        clear hb1 hb0
        have o0 : a2.tmps[0]? = some (.pointer (some ⟨gc, 0, none⟩)) := hold 0 (by kernel_rfl)
        clear hdep hold
        go_simp
        exact hK _ _ hS rfl (fun _ _ _ _ h => h)
      · intro o ho b a2 W hM hb1 hb0 hS hold hdep K hK
        simp only [List.getElem?_toArray, List.getElem?_cons_zero, List.getElem?_cons_succ, Option.some.injEq] at ho
        subst ho
        clear hM
        obtain rfl : b = false := hb0 (by kernel_rfl)
        clear hb1 hb0
        clear hdep hold
        have hgW := hS.src.cur.lt
        go_simp
        exact hK _ _ (hS.alloc _) ⟨W.heap.size, rfl, by omega, Blk.new W _ _⟩ (fun j u _ _ => JD.alloc _ j u)
      · intro o ho b a2 W hM hb1 hb0 hS hold hdep K hK
        simp only [List.getElem?_toArray, List.getElem?_cons_zero, List.getElem?_cons_succ, Option.some.injEq] at ho
        subst ho
        clear hM
        obtain rfl : b = false := hb0 (by kernel_rfl)
        clear hb1 hb0
        obtain ⟨u2, e2, j2⟩ := hdep 2 (by kernel_rfl)
        have e2 := e2 18 (by kernel_rfl)
        have j2 : u2 = .pointer (some ⟨gc, 0, none⟩) := j2
        obtain ⟨u3, e3, j3⟩ := hdep 3 (by kernel_rfl)
        have e3 := e3 19 (by kernel_rfl)
        have j3 : Lst W gc 3 3 #[.int .i64 0, .int .i64 100000, .int .i64 100001] u3 := j3
        clear hdep hold
        subst j2
        obtain ⟨g, rfl, hgc2, hb2⟩ := j3
        go_simp
        go_at_call 65
        refine (int_step gc n cap a zs g 3 [0, 100000, 100001] W hS.src rfl (by omega) (by omega) hgc2 (fun j hj => (hb2.cell j).trans (tri_cell3 0 100000 100001 j hj))).mono ?_
        rintro e w8 ⟨x, rfl, hx, s8, g8⟩
        exact hK _ _ (hS.step s8 g8) ⟨_, rfl⟩ (fun j u _ _ => JD.step g8 j u)
      · intro o ho b a2 W hM hb1 hb0 hS hold hdep K hK
        simp only [List.getElem?_toArray, List.getElem?_cons_zero, List.getElem?_cons_succ, Option.some.injEq] at ho
        subst ho
        clear hM
        obtain rfl : b = false := hb0 (by kernel_rfl)
        clear hb1 hb0
        have o0 : a2.tmps[0]? = some (.pointer (some ⟨gc, 0, none⟩)) := hold 0 (by kernel_rfl)
        clear hdep hold
        go_simp
        exact hK _ _ hS rfl (fun _ _ _ _ h => h)
      · intro o ho b a2 W hM hb1 hb0 hS hold hdep K hK
        simp only [List.getElem?_toArray, List.getElem?_cons_zero, List.getElem?_cons_succ, Option.some.injEq] at ho
        subst ho
        clear hM
        obtain rfl : b = false := hb0 (by kernel_rfl)
        clear hb1 hb0
        obtain ⟨u5, e5, j5⟩ := hdep 5 (by kernel_rfl)
        have e5 := e5 21 (by kernel_rfl)
        have j5 : u5 = .pointer (some ⟨gc, 0, none⟩) := j5
        clear hdep hold
        subst j5
        have hb4 := below_step gc n cap a zs 4 W hS.src (by omega) (by omega)
        rw [show ((4 : Nat) : Int) = 4 from rfl] at hb4
        go_simp
        go_at_call 43
        refine (hb4).mono ?_
        rintro e w8 ⟨x, rfl, hx, s8, g8⟩
        exact hK _ _ (hS.step s8 g8) ⟨_, rfl⟩ (fun j u _ _ => JD.step g8 j u)
      · intro o ho b a2 W hM hb1 hb0 hS hold hdep K hK
        simp only [List.getElem?_toArray, List.getElem?_cons_zero, List.getElem?_cons_succ, Option.some.injEq] at ho
        subst ho
        clear hM
        obtain rfl : b = false := hb0 (by kernel_rfl)
        clear hb1 hb0
        have o0 : a2.tmps[0]? = some (.pointer (some ⟨gc, 0, none⟩)) := hold 0 (by kernel_rfl)
        clear hdep hold
        go_simp
        exact hK _ _ hS rfl (fun _ _ _ _ h => h)
      · intro o ho b a2 W hM hb1 hb0 hS hold hdep K hK
        simp only [List.getElem?_toArray, List.getElem?_cons_zero, List.getElem?_cons_succ, Option.some.injEq] at ho
        subst ho
        clear hM
        obtain rfl : b = false := hb0 (by kernel_rfl)
        clear hb1 hb0
        clear hdep hold
        have hgW := hS.src.cur.lt
        go_simp
        exact hK _ _ (hS.alloc _) ⟨W.heap.size, rfl, by omega, Blk.new W _ _⟩ (fun j u _ _ => JD.alloc _ j u)
      · intro o ho b a2 W hM hb1 hb0 hS hold hdep K hK
        simp only [List.getElem?_toArray, List.getElem?_cons_zero, List.getElem?_cons_succ, Option.some.injEq] at ho
        subst ho
        clear hM
        obtain rfl : b = false := hb0 (by kernel_rfl)
        clear hb1 hb0
        obtain ⟨u7, e7, j7⟩ := hdep 7 (by kernel_rfl)
        have e7 := e7 23 (by kernel_rfl)
        have j7 : u7 = .pointer (some ⟨gc, 0, none⟩) := j7
        obtain ⟨u8, e8, j8⟩ := hdep 8 (by kernel_rfl)
        have e8 := e8 24 (by kernel_rfl)
        have j8 : Lst W gc 3 3 #[.int .i64 (-1), .int .i64 0, .int .i64 401] u8 := j8
        clear hdep hold
        subst j7
        obtain ⟨g, rfl, hgc2, hb2⟩ := j8
        go_simp
        go_at_call 65
        refine (int_step gc n cap a zs g 3 [-1, 0, 401] W hS.src rfl (by omega) (by omega) hgc2 (fun j hj => (hb2.cell j).trans (tri_cell3 (-1) 0 401 j hj))).mono ?_
        rintro e w8 ⟨x, rfl, hx, s8, g8⟩
        exact hK _ _ (hS.step s8 g8) ⟨_, rfl⟩ (fun j u _ _ => JD.step g8 j u)
      · intro o ho b a2 W hM hb1 hb0 hS hold hdep K hK
        simp only [List.getElem?_toArray, List.getElem?_cons_zero, List.getElem?_cons_succ, Option.some.injEq] at ho
        subst ho
        clear hM
        obtain rfl : b = false := hb0 (by kernel_rfl)
        clear hb1 hb0
        obtain ⟨u4, e4, j4⟩ := hdep 4 (by kernel_rfl)
        have e4 := e4 20 (by kernel_rfl)
        have j4 : ∃ q, u4 = .int .i64 q := j4
        obtain ⟨u6, e6, j6⟩ := hdep 6 (by kernel_rfl)
        have e6 := e6 22 (by kernel_rfl)
        have j6 : ∃ q, u6 = .int .i64 q := j6
        obtain ⟨u9, e9, j9⟩ := hdep 9 (by kernel_rfl)
        have e9 := e9 25 (by kernel_rfl)
        have j9 : ∃ q, u9 = .int .i64 q := j9
        clear hdep hold
        obtain ⟨q1, rfl⟩ := j4
        obtain ⟨q2, rfl⟩ := j6
        obtain ⟨q3, rfl⟩ := j9
        go_simp
        exact hK _ _ hS ⟨⟨q1, q2, q3⟩, rfl⟩ (fun _ _ _ _ h => h)
      · intro o ho b a2 W hM hb1 hb0 hS hold hdep K hK
        simp only [List.getElem?_toArray, List.getElem?_cons_zero, List.getElem?_cons_succ, Option.some.injEq] at ho
        subst ho
        clear hM
        obtain rfl : b = false := hb0 (by kernel_rfl)
        clear hb1 hb0
        obtain ⟨u10, e10, j10⟩ := hdep 10 (by kernel_rfl)
        have e10 := e10 26 (by kernel_rfl)
        have j10 : ∃ p : FtD, u10 = .agg #[.int .i64 p.tm, .int .i64 p.kd, .int .i64 p.kp] := j10
        clear hdep hold
        obtain ⟨r, rfl⟩ := j10
        have hgW := hS.src.cur.lt
        go_simp
        exact hK _ _ (hS.alloc _) ⟨W.heap.size, r, rfl, by omega, Blk.new W _ _⟩ (fun j u _ _ => JD.alloc _ j u)
      · intro o ho b a2 W hM hb1 hb0 hS hold hdep K hK
        simp only [List.getElem?_toArray, List.getElem?_cons_zero, List.getElem?_cons_succ, Option.some.injEq] at ho
        subst ho
        clear hM
        obtain rfl : b = false := hb0 (by kernel_rfl)
        clear hb1 hb0
        obtain ⟨u1, e1, j1⟩ := hdep 1 (by kernel_rfl)
        have e1 := e1 17 (by kernel_rfl)
        have j1 : u1 = .slice fa m fc := j1
        obtain ⟨u11, e11, j11⟩ := hdep 11 (by kernel_rfl)
        have e11 := e11 27 (by kernel_rfl)
        have j11 : OneF W gc u11 := j11
        clear hdep hold
        subst j1
        have hlk := HM.out
        obtain ⟨g, r, rfl, hgc2, hb2⟩ := j11
        refine step_append_lies W rfl (.tmp 17) (.tmp 27) 27 rfl 0 51 ie _ 3 24 Tryz.underlying27 hie ze0 ze1 ze2 rfl (by omega) (.slice fa m fc) m (ftE.xv D.fs) (eval_of e1) hS.nd.fs ⟨g, 0, none⟩ 1 1 [.int .i64 r.tm, .int .i64 r.kd, .int .i64 r.kp] (eval_of e11) rfl (row3_at hb2) (fun u hu => by simp at hu; rcases hu with rfl | rfl | rfl <;> rfl) (by omega) (by unfold maxLen; omega) (by omega) (by omega) _ rfl ?_
        intro g5 c5 w8 ho5 hg5 hgg _
        exact hK _ _ trivial ⟨g5, c5, r, rfl, hS.app hg5 (by unfold OwnFa OwnE; rw [ftE_snoc]; exact ho5) hgg⟩ (fun j u hj hd _ => JD.behind j u hj (fun e => by subst e; cases hd (by kernel_rfl)))
      · intro o ho b a2 W hM hb1 hb0 hS hold hdep K hK
        simp only [List.getElem?_toArray, List.getElem?_cons_zero, List.getElem?_cons_succ, Option.some.injEq] at ho
        subst ho
        clear hM
        obtain rfl : b = true := hb1 (by kernel_rfl)
        clear hb1 hb0
        have o3 : a2.tmps[3]? = some (.pointer (some ⟨X, 0, none⟩)) := hold 3 (by kernel_rfl)
        clear hdep hold
        go_simp
        exact hK _ _ trivial rfl (fun _ _ _ _ h => h)
    case fin =>
      intro a2 W _ hdf hsz hold hall
      obtain ⟨u0, t0, _⟩ := hall 0 (by omega) (by decide)
      obtain ⟨u1, t1, _⟩ := hall 1 (by omega) (by decide)
      obtain ⟨u2, t2, _⟩ := hall 2 (by omega) (by decide)
      obtain ⟨u3, t3, _⟩ := hall 3 (by omega) (by decide)
      obtain ⟨u4, t4, _⟩ := hall 4 (by omega) (by decide)
      obtain ⟨u5, t5, _⟩ := hall 5 (by omega) (by decide)
      obtain ⟨u6, t6, _⟩ := hall 6 (by omega) (by decide)
      obtain ⟨u7, t7, _⟩ := hall 7 (by omega) (by decide)
      obtain ⟨u8, t8, _⟩ := hall 8 (by omega) (by decide)
      obtain ⟨u9, t9, _⟩ := hall 9 (by omega) (by decide)
      obtain ⟨u10, t10, _⟩ := hall 10 (by omega) (by decide)
      obtain ⟨u11, t11, _⟩ := hall 11 (by omega) (by decide)
      obtain ⟨u12, t12, j12⟩ := hall 12 (by omega) (by decide)
      obtain ⟨u13, t13, j13⟩ := hall 13 (by omega) (by decide)
      clear hall
      obtain rfl := puts_act (L := 14) [(16, u0), (17, u1), (18, u2), (19, u3), (20, u4), (21, u5), (22, u6), (23, u7), (24, u8), (25, u9), (26, u10), (27, u11), (28, u12), (29, u13)] (by kernel_rfl) hdf hsz hold (List.forall_mem_cons.2 ⟨t0 16 (by kernel_rfl), (List.forall_mem_cons.2 ⟨t1 17 (by kernel_rfl), (List.forall_mem_cons.2 ⟨t2 18 (by kernel_rfl), (List.forall_mem_cons.2 ⟨t3 19 (by kernel_rfl), (List.forall_mem_cons.2 ⟨t4 20 (by kernel_rfl), (List.forall_mem_cons.2 ⟨t5 21 (by kernel_rfl), (List.forall_mem_cons.2 ⟨t6 22 (by kernel_rfl), (List.forall_mem_cons.2 ⟨t7 23 (by kernel_rfl), (List.forall_mem_cons.2 ⟨t8 24 (by kernel_rfl), (List.forall_mem_cons.2 ⟨t9 25 (by kernel_rfl), (List.forall_mem_cons.2 ⟨t10 26 (by kernel_rfl), (List.forall_mem_cons.2 ⟨t11 27 (by kernel_rfl), (List.forall_mem_cons.2 ⟨t12 28 (by kernel_rfl), (List.forall_mem_cons.2 ⟨t13 29 (by kernel_rfl), (fun p hp => by cases hp)⟩)⟩)⟩)⟩)⟩)⟩)⟩)⟩)⟩)⟩)⟩)⟩)⟩)⟩)
      clear hdf hsz hold t0 t1 t2 t3 t4 t5 t6 t7 t8 t9 t10 t11 t12 t13
      obtain ⟨g5, c5, r, rfl, xa⟩ := j12
      have j13 : u13 = .pointer (some ⟨X, 2, none⟩) := j13
      subst j13
      simp only [List.foldl_cons, List.foldl_nil, List.setIfInBounds_toArray, List.set_cons_zero, List.set_cons_succ]
      have c2 := xa.x.cell 2
      have f2 := xa.x.frozen 2
      simp at c2
      refine wpOp_last rfl (fun K hK => ?_)
      go_simp
      refine Shut.out hK _ _ ?_
      have xf := xa.setX 2 (.slice (some ⟨g5, 0, none⟩) (m + 1) c5)
      simp at xf
      have hv24 := xr.pgv
      clear xa c2 f2 hK xr
      obtain ⟨q0, q1, q2, q3⟩ := xf.x.dev
      obtain ⟨r0, r1, r2, r3⟩ := xf.res.dev
      have f0 := xf.res.frozen 0
      have f1 := xf.res.frozen 1
      have f2 := xf.res.frozen 2
      have f3 := xf.res.frozen 3
      have zf := (((xf.res.set 0 (.slice va vn vc)).set 1 (.int .i64 D.ops)).set 2 (.slice (some ⟨g5, 0, none⟩) (m + 1) c5)).set 3 (.bool D.down)
      simp at zf
      obtain ⟨s0, s1, s2, s3⟩ := zf.dev
      have HQ : Hid _ := xf.fin (ops := D.ops) (down := D.down) (by have := HM.out; omega) hv24 (.slice va vn vc) (.int .i64 D.ops) (.slice (some ⟨g5, 0, none⟩) (m + 1) c5) (.bool D.down)
      clear xf zf
      go_wp2
      refine bodyPost_ret (v := .agg #[.slice va vn vc, .int .i64 D.ops, .slice (some ⟨g5, 0, none⟩) (m + 1) c5, .bool D.down]) (by simp [results, Tryz.f41, go_sem, s0, s1, s2, s3]) rfl ?_
      rw [← HP.out]
      exact HQ.out

  by_cases h2 : x = 2
  · subst h2
    rw [show ((2 : Nat) : Int) = 2 from rfl]
    go_wp2_with fail
    refine (l10AnyS2 gc n cap a zs w2 xr.src).mono ?_
    rintro e w3 ⟨va3, vn3, vc3, qs3, rfl, ac3, hv3, s3, sv3⟩
    have hgc2 := xr.src.cur.lt
    have hx3 := xr.x.lt
    have x3 : Blk w3 X 29 _ := Blk.svs xr.x sv3 (by have := xr.hX; simp; omega)
    have r3 : Blk w3 w.heap.size 29 _ := Blk.svs xr.res sv3 (by simp; omega)
    have hXw := xr.hX
    have hwl := xr.res.lt
    have of3 : OwnFa w3 (.slice fa m fc) m D.fs := OwnE.block xr.nd.fs (fun g hg => sv3.block g (OwnE.lt xr.nd.fs hg) (by have := (xr.nd.new g hg).1; simp; omega))
    have of4 : OwnFa (w3.setCell ⟨X, 0, none⟩ (.slice va3 vn3 vc3)) (.slice fa m fc) m D.fs := OwnE.block of3 (fun g hg => Below.heap_setCell _ _ _ _ (fun e => xr.xf (by have e2 : g = X := e; rw [← e2]; exact fpDv_fs hg)))
    have HQ0 : Hid (Q11 w gc n cap a zs (.returned (.agg #[.slice va3 vn3 vc3, .int .i64 D.ops, .slice fa m fc, .bool D.down])) _) := q11_fin (s3.set (show gc < X by omega)) (sv_new (xr.sv.trans sv3) (by omega)) hgc ((ac3.far hx3 (.slice va3 vn3 vc3)).less (by omega)) hv3 (OwnFa.afr of4 (fun g hg => (xr.nd.new g hg).1) (by have := HM.out; omega)) (by have := HM.out; omega) (.slice va3 vn3 vc3) (.int .i64 D.ops) (.slice fa m fc) (.bool D.down)
    obtain ⟨cb0, cb1, cb2, cb3⟩ := x3.dev
    have fb0 := x3.frozen 0
    have xs3 := x3.set 0 (.slice va3 vn3 vc3)
    simp at xs3
    obtain ⟨q0, q1, q2, q3⟩ := xs3.dev
    have rr3 := r3.other (B' := X) (by omega) 0 (.slice va3 vn3 vc3)
    obtain ⟨r0, r1, r2, r3'⟩ := rr3.dev
    have f0 := rr3.frozen 0
    have f1 := rr3.frozen 1
    have f2 := rr3.frozen 2
    have f3 := rr3.frozen 3
    have zf := (((rr3.set 0 (.slice va3 vn3 vc3)).set 1 (.int .i64 D.ops)).set 2 (.slice fa m fc)).set 3 (.bool D.down)
    simp at zf
    obtain ⟨s0', s1', s2', s3'⟩ := zf.dev
    clear xr x3 r3 of3 of4 ac3 xs3 rr3 zf sv3 s3
    go_wp2
    refine bodyPost_ret (v := .agg #[.slice va3 vn3 vc3, .int .i64 D.ops, .slice fa m fc, .bool D.down]) (by simp [results, Tryz.f41, go_sem, s0', s1', s2', s3']) rfl ?_
    rw [← HP.out]
    exact HQ0.out
  have hx0 : ((x : Int) == 0) = false := by simpa using h0
  have hx1 : ((x : Int) == 1) = false := by simp; omega
  have hx2 : ((x : Int) == 2) = false := by simp; omega
  have xf := xr
  clear xr
  obtain ⟨q0, q1, q2, q3⟩ := xf.x.dev
  obtain ⟨r0, r1, r2, r3⟩ := xf.res.dev
  have f0 := xf.res.frozen 0
  have f1 := xf.res.frozen 1
  have f2 := xf.res.frozen 2
  have f3 := xf.res.frozen 3
  have zf := (((xf.res.set 0 (.slice va vn vc)).set 1 (.int .i64 D.ops)).set 2 (.slice fa m fc)).set 3 (.bool D.down)
  simp at zf
  obtain ⟨s0, s1, s2, s3⟩ := zf.dev
  have HQ : Hid _ := xf.fin (ops := D.ops) (down := D.down) (vc := vc) (fc := fc) (.slice va vn vc) (.int .i64 D.ops) (.slice fa m fc) (.bool D.down)
  clear xf zf
  go_wp2
  refine bodyPost_ret (v := .agg #[.slice va vn vc, .int .i64 D.ops, .slice fa m fc, .bool D.down]) (by simp [results, Tryz.f41, go_sem, s0, s1, s2, s3]) rfl ?_
  rw [← HP.out]
  exact HQ.out
end

section
open Go.RowKit
/-- A device was drawn, right or not, by itself. -/
def DrawnPU (w : World) (e : Ending) (w' : World) : Prop := ∃ (va : Option Addr) (vn vc : Nat) (op : Int) (fa : Option Addr) (m fc : Nat) (dn : Bool) (qs : List BkR) (fs : List FtD), e = .returned (.agg #[.slice va vn vc, .int .i64 op, .slice fa m fc, .bool dn]) ∧ ACR w.heap.size w' va vn qs ∧ PgV vn qs ∧ AFR w.heap.size w' fa m fs ∧ m ≤ 21 ∧ Below w.heap.size w w'
set_option maxRecDepth 100000 in
set_option maxHeartbeats 8000000 in
theorem drawPowerUp_any (a : Option Addr) (n cap : Nat) (zs : List Int) (w : World) (hn : zs.length = n) (hs : n ≤ 1048576) (hr : Rd w a zs) (hb : Byt zs) :
    Calls Tryz.prog 21 #[.slice a n cap] w (DrawnPU w) := by
  have b0 : Below w.heap.size w (w.alloc (.cells #[.slice none 0 0, .int .i64 0, .slice none 0 0, .bool false] 29)) := (Below.refl _ w).alloc (Nat.le_refl _) _
  have z0 := Blk.new w 29 #[.slice none 0 0, .int .i64 0, .slice none 0 0, .bool false]
  have hsz : (w.alloc (.cells #[.slice none 0 0, .int .i64 0, .slice none 0 0, .bool false] 29)).heap.size = w.heap.size + 1 := by simp
  have HSZ : Hid _ := hsz
  have HB0 : Hid _ := b0
  obtain ⟨P, hP⟩ : ∃ P, DrawnPU w = P := ⟨_, rfl⟩
  have HP : Hid _ := hP
  rw [hP]
  clear hsz hP
  go_enter Tryz.func21, Tryz.ntmps21
  go_wp2_with fail
  refine (new_step a n cap zs _ hn hs (hr.keep b0) hb).mono ?_
  rintro e w1 ⟨rfl, s1, b1⟩
  have zr := z0.keep b1
  have B1 := HB0.out.trans (b1.mono HB0.out.size)
  rw [HSZ.out] at s1 ⊢
  have hsz1 := b1.size
  rw [HSZ.out] at hsz1
  have hc1 := s1.cur.lt
  clear z0 b0 b1 hr hb hn
  go_wp2_with fail
  (with_reducible refine (l11AnyS _ n cap a zs w1 s1).mono ?_)
  rintro e w2 ⟨va, vn, vc, op, fa, m, fc, dn, qs, fs, rfl, ac2, hv2, af2, hm2, s2, sv2⟩
  have zr2 : Blk w2 w.heap.size 29 _ := Blk.svs zr sv2 (by simp)
  have B2 : Below w.heap.size w w2 := below_svs B1 sv2 (by simp) (Nat.le_refl _)
  clear zr B1 s1
  have hsv2 := sv2.size
  have ac4 : ACR (w.heap.size + 1) w2 va vn qs := ac2.less (by omega)
  have af4 : AFR (w.heap.size + 1) w2 fa m fs := af2.less (by omega)
  have HQ : Hid (DrawnPU w (.returned (.agg #[.slice va vn vc, .int .i64 op, .slice fa m fc, .bool dn])) ((((w2.setCell ⟨w.heap.size, 0, none⟩ (.slice va vn vc)).setCell ⟨w.heap.size, 1, none⟩ (.int .i64 op)).setCell ⟨w.heap.size, 2, none⟩ (.slice fa m fc)).setCell ⟨w.heap.size, 3, none⟩ (.bool dn))) := by
    refine ⟨va, vn, vc, op, fa, m, fc, dn, qs, fs, rfl, ((((ac4.far (by omega) _).far (by omega) _).far (by omega) _).far (by omega) _).less (by omega), hv2, ((((af4.far (by omega) _).far (by omega) _).far (by omega) _).far (by omega) _).less (by omega), hm2, ?_⟩
    exact (((B2.setCell (p := ⟨w.heap.size, 0, none⟩) (Nat.le_refl _) _).setCell (p := ⟨w.heap.size, 1, none⟩) (Nat.le_refl _) _).setCell (p := ⟨w.heap.size, 2, none⟩) (Nat.le_refl _) _).setCell (p := ⟨w.heap.size, 3, none⟩) (Nat.le_refl _) _
  obtain ⟨r0, r1, r2, r3⟩ := zr2.dev
  have f0 := zr2.frozen 0
  have f1 := zr2.frozen 1
  have f2 := zr2.frozen 2
  have f3 := zr2.frozen 3
  have zf := (((zr2.set 0 (.slice va vn vc)).set 1 (.int .i64 op)).set 2 (.slice fa m fc)).set 3 (.bool dn)
  simp at zf
  obtain ⟨t0, t1, t2, t3⟩ := zf.dev
  clear zr2 B2 s2 sv2 zf ac2 af2 ac4 af4
  go_wp2
  refine bodyPost_ret (v := .agg #[.slice va vn vc, .int .i64 op, .slice fa m fc, .bool dn]) (by simp [results, Tryz.f21, go_sem, t0, t1, t2, t3]) rfl ?_
  rw [← HP.out]
  exact HQ.out
end

section
open Go.RowKit
theorem n5_in (k : Nat) (h : k < 5) : 2 ≤ ([3, 5, 24, 2, 25] : List Int).getD k 0 ∧ ([3, 5, 24, 2, 25] : List Int).getD k 0 ≤ 25 := by
  rcases (show k = 0 ∨ k = 1 ∨ k = 2 ∨ k = 3 ∨ k = 4 by omega) with rfl | rfl | rfl | rfl | rfl <;> simp
/-- A number of blocks and faults were drawn. -/
def DrawnDN (w : World) (e : Ending) (w' : World) : Prop := ∃ (x : Int) (fa : Option Addr) (m fc : Nat) (fs : List FtD), e = .returned (.tuple #[.int .i64 x, .slice fa m fc]) ∧ (2 ≤ x ∧ x ≤ 25) ∧ FR w' fa m fs ∧ m ≤ 4 ∧ Below w.heap.size w w'
theorem XF.fin {w W : World} {gc n cap : Nat} {a : Option Addr} {zs : List Int} {v : Value} {fs : List FtD} (h : XF w W gc n cap a zs v fs) (hl : fs.length ≤ 4) : ∃ (fa : Option Addr) (m fc : Nat), v = .slice fa m fc ∧ m ≤ 4 ∧ FR W fa m fs := by
  have ho : OwnFa W v fs.length fs := row_down h.own (Nat.zero_le _)
  obtain ⟨fa, fc, rfl⟩ : ∃ fa fc, v = .slice fa fs.length fc := by
    rcases h.own.2 with ⟨rfl, h0⟩ | ⟨g, c, cur, rfl, _⟩
    · exact ⟨none, 0, by rw [h0]⟩
    · exact ⟨_, c, rfl⟩
  exact ⟨fa, fs.length, fc, rfl, hl, OwnFa.fr ho (by omega)⟩
set_option maxRecDepth 100000 in
set_option maxHeartbeats 8000000 in
theorem drawDevNew_any (a : Option Addr) (n cap : Nat) (zs : List Int) (w : World) (hn : zs.length = n) (hs : n ≤ 1048576) (hr : Rd w a zs) (hb : Byt zs) :
    Calls Tryz.prog 23 #[.slice a n cap] w (DrawnDN w) := by
  obtain ⟨ie, hie, ze0, ze1, ze2⟩ := info_parts Tryz.infoFault
  obtain ⟨P, hP⟩ : ∃ P, DrawnDN w = P := ⟨_, rfl⟩
  have HP : Hid _ := hP
  rw [hP]
  clear hP
  go_enter Tryz.func23, Tryz.ntmps23
  go_wp2_with fail
  refine (new_step a n cap zs _ hn hs hr hb).mono ?_
  rintro e w1 ⟨rfl, s1, b1⟩
  have hc1 := s1.cur.lt
  have HB1 : Hid (Below w.heap.size w w1) := b1
  clear b1 hr hb hn
  go_wp2_with fail
  refine (l11FaultListS w.heap.size n cap a zs w1 s1).mono ?_
  rintro e w2 ⟨v, fs, rfl, hfl, _, hfo, s2, gr2⟩
  have x2 : XF w1 w2 w.heap.size n cap a zs v fs := ⟨s2, gr2, hfo, hc1⟩
  clear s1 s2 gr2 hfo
  go_wp2_with fail
  refine (once_step w.heap.size n cap a zs 6 w2 x2.src (by omega) (by omega)).mono ?_
  rintro e w3 ⟨Bq, rfl, s3, g3⟩
  have x3 := x2.step s3 g3
  clear x2 s3 g3
  have hend : ∀ (W : World) (u : Value) (gs : List FtD), XF w1 W w.heap.size n cap a zs u gs → Below w.heap.size w W := fun W u gs h => below_svs HB1.out (sv_grown h.gr) (by simp) (Nat.le_refl _)
  have HEND : Hid _ := hend
  clear hend
  cases Bq with
  | false =>
    have yS := x3.alloc (.cells #[.int .i64 3, .int .i64 5, .int .i64 24, .int .i64 2, .int .i64 25] 3)
    have hcJ := int_step w.heap.size n cap a zs w3.heap.size 5 [3, 5, 24, 2, 25] _ yS.src rfl (by omega) (by omega) (by have := x3.src.cur.lt; omega) (fun j hj => ints_cells w3 [3, 5, 24, 2, 25] 3 j hj)
    go_wp2_with fail
    (with_reducible refine hcJ.mono ?_)
    rintro e w8 ⟨k8, rfl, hk8, s8, g8⟩
    have y8 := yS.step s8 g8
    have hin := n5_in k8 hk8
    obtain ⟨xq, hxq⟩ : ∃ z, ([3, 5, 24, 2, 25] : List Int).getD k8 0 = z := ⟨_, rfl⟩
    rw [hxq] at hin ⊢
    have HYF : Hid _ := y8.fin (by omega)
    have B8 := HEND.out _ _ _ y8
    clear yS hcJ s8 g8 y8 x3
    go_wp2
    rw [← HP.out]
    obtain ⟨fa, m, fc, hv, hm, hfr⟩ := HYF.out
    exact ⟨xq, fa, m, fc, _, by rw [← hv]; rfl, hin, hfr, hm, B8⟩
  | true =>
    have xS := x3.alloc (.cells #[.int .i64 0, .int .i64 99, .int .i64 100001] 3)
    have hcI := int_step w.heap.size n cap a zs w3.heap.size 3 [0, 99, 100001] _ xS.src rfl (by omega) (by omega) (by have := x3.src.cur.lt; omega) (fun j hj => ints_cells w3 [0, 99, 100001] 3 j hj)
    go_wp2_with fail
    (with_reducible refine hcI.mono ?_)
    rintro e w4 ⟨k3, rfl, _, s4, g4⟩
    have x4 := xS.step s4 g4
    obtain ⟨tq, htq⟩ : ∃ z, ([0, 99, 100001] : List Int).getD k3 0 = z := ⟨_, rfl⟩
    rw [htq]
    clear htq hcI xS x3 s4 g4
    have hb4 := below_step w.heap.size n cap a zs 4 w4 x4.src (by omega) (by omega)
    rw [show ((4 : Nat) : Int) = 4 from rfl] at hb4
    go_wp2_with fail
    refine hb4.mono ?_
    rintro e u4 ⟨kq, rfl, _, s5, g5⟩
    have d4 := x4.step s5 g5
    clear x4 s5 g5 hb4
    have hrow := World.ownsRow.alloc d4.own (.cells #[.int .i64 tq, .int .i64 (kq : Int), .int .i64 0] 51)
    have hbw : w1.heap.size ≤ (u4.alloc (.cells #[.int .i64 tq, .int .i64 (kq : Int), .int .i64 0] 51)).heap.size := by simp; have := d4.gr.size; omega
    go_wp2_with (at_builtin; refine wpList_append_lies (u4.alloc (.cells #[.int .i64 tq, .int .i64 (kq : Int), .int .i64 0] 51)) rfl (.tmp 12) (.tmp 19) 27 rfl w1.heap.size 51 ie _ 3 24 Tryz.underlying27 hie ze0 ze1 ze2 rfl (by omega) v fs.length (ftE.xv fs) rfl hrow ⟨u4.heap.size, 0, none⟩ 1 1 [.int .i64 tq, .int .i64 (kq : Int), .int .i64 0] rfl rfl (three_news u4 _ _ _ _) (by intro u hu; simp at hu; rcases hu with rfl | rfl | rfl <;> rfl) (by omega) (by unfold maxLen; omega) (by omega) hbw (u4.heap.size + 1) (by simp) ?_; intro g5 c5 u5 ho5 hg5 hat5 hlt5; have d6 := (d4.alloc (.cells #[.int .i64 tq, .int .i64 (kq : Int), .int .i64 0] 51)).app (v' := .slice (some ⟨g5, 0, none⟩) (fs.length + 1) c5) (p := ⟨tq, (kq : Int), 0⟩) hg5 (by rw [ftE_snoc]; exact ho5); clear hrow hbw)
    have yS := d6.alloc (.cells #[.int .i64 3, .int .i64 5, .int .i64 24, .int .i64 2, .int .i64 25] 3)
    have hcJ := int_step w.heap.size n cap a zs u5.heap.size 5 [3, 5, 24, 2, 25] _ yS.src rfl (by omega) (by omega) (by have := d6.src.cur.lt; omega) (fun j hj => ints_cells u5 [3, 5, 24, 2, 25] 3 j hj)
    go_wp2_with fail
    (with_reducible refine hcJ.mono ?_)
    rintro e w8 ⟨k8, rfl, hk8, s8, g8⟩
    have y8 := yS.step s8 g8
    have hin := n5_in k8 hk8
    obtain ⟨xq, hxq⟩ : ∃ z, ([3, 5, 24, 2, 25] : List Int).getD k8 0 = z := ⟨_, rfl⟩
    rw [hxq] at hin ⊢
    have HYF : Hid _ := y8.fin (by rw [List.length_append, List.length_singleton]; omega)
    have B8 := HEND.out _ _ _ y8
    clear yS hcJ s8 g8 y8 d6
    go_wp2
    rw [← HP.out]
    obtain ⟨fa, m, fc, hv, hm, hfr⟩ := HYF.out
    exact ⟨xq, fa, m, fc, _, by rw [← hv]; rfl, hin, hfr, hm, B8⟩
end
end Go.Proofs.YtoeeblmnogeonaaGreatDoor


