/-
  Joined: DrAy, DrEf.
-/
import Derived.Test.YtcohppfocfepdaaDoorJ28P
import Derived.Deep.CutBlock
namespace Go.Proofs.YtcohppfocfepdaaDoor
section
open Go.RowKit
/-- What l10Any answers. -/
def DyA (w : World) (gc n cap : Nat) (a : Option Addr) (zs : List Int) (e : Ending) (w' : World) : Prop := ∃ va vn vc qs, e = .returned (.agg #[.slice va vn vc]) ∧ ACR w.heap.size w' va vn qs ∧ vn ≤ 24 ∧ Src w' gc n cap a zs ∧ Sv [gc] w w'
/-- What is known behind the ways. -/
def DyC (w wx : World) (B H X gc n cap : Nat) (a : Option Addr) (zs : List Int) : Prop := ∃ va vn vc qs, Blk wx X 26 #[.slice va vn vc] ∧ ACR B wx va vn qs ∧ vn ≤ 24 ∧ Src wx gc n cap a zs ∧ Sv [gc] w wx ∧ Blk wx H 26 #[.slice none 0 0]
theorem ok_tot2 {ds : List BkD} (h : ChOk ds) : totB ds ≤ 100000 := by
  have hb : ∀ b ∈ ds, totP b.ps ≤ 3208 := fun b hb => by
    have h1 := h.2.2 b hb
    have h2 := totP_bound b.ps (fun p hp => by
      obtain ⟨i, hi⟩ := List.mem_iff_getElem?.1 hp
      have := (h1.2.2.2 i p hi).1
      unfold pgOk at this
      simp at this
      exact this.1)
    rw [h1.1] at h2
    omega
  have h3 := totB_bound ds hb
  have h4 := h.2.1
  omega
theorem totB_setY : ∀ (ds : List BkD) (k : Nat) (b' : BkD), totB (ds.set k b') ≤ totB ds + 1 + totP b'.ps
  | [], _, _ => by simp [totB]
  | d :: ds, 0, b' => by rw [List.set_cons_zero, totB_cons, totB_cons]; omega
  | d :: ds, k + 1, b' => by
    have := totB_setY ds k b'
    rw [List.set_cons_succ, totB_cons, totB_cons]
    omega
theorem totP_setY : ∀ (ps : List PgD) (k : Nat) (q : PgD), totP (ps.set k q) ≤ totP ps + 1 + q.zs.length
  | [], _, _ => by simp [totP]
  | d :: ps, 0, q => by rw [List.set_cons_zero, totP_cons, totP_cons]; omega
  | d :: ps, k + 1, q => by
    have := totP_setY ps k q
    rw [List.set_cons_succ, totP_cons, totP_cons]
    omega
theorem totP_leB {ds : List BkD} {b : BkD} (h : b ∈ ds) : totP b.ps ≤ totB ds := by
  induction ds with
  | nil => simp at h
  | cons d ds ih =>
    rw [totB_cons]
    rcases List.mem_cons.1 h with rfl | h1
    · omega
    · have := ih h1
      omega
theorem ownE_cap {α : Type} {E : El α} {ty : TypeId} {w : World} {a : Option Addr} {n c m : Nat} {rs : List α} (h : OwnE E ty w (.slice a n c) m rs) : n ≤ c := by
  rcases h.2 with ⟨h1, h2⟩ | ⟨g', c', cur, h1, _, _, h2, _⟩
  · simp only [Value.slice.injEq] at h1; omega
  · simp only [Value.slice.injEq] at h1; omega
theorem rowB_one (w : World) (z : Int) : RowB (w.alloc (.cells #[.int .u8 z] 5)) (.slice (some ⟨w.heap.size, 0, none⟩) 1 1) 1 [z] :=
  ⟨rfl, .inr ⟨w.heap.size, 1, #[.int .u8 z], (0, 0), rfl, heap_alloc_new w _, by simp, fun i hi => by obtain rfl := (show i = 0 by omega); rfl, .inr rfl⟩⟩
theorem sv_at {F : List Nat} {X i : Nat} {v : Value} (w : World) (h : X ∈ F) : Sv F w (w.setCell ⟨X, i, none⟩ v) :=
  ⟨rfl, rfl, rfl, by rw [size_setC]; exact Nat.le_refl _, fun k _ hn => Below.heap_setCell _ _ _ _ (fun e => hn (e ▸ h))⟩
theorem totP_same : ∀ {ps : List PgD} {k : Nat} {p q : PgD}, ps[k]? = some p → q.zs.length ≤ p.zs.length → totP (ps.set k q) ≤ totP ps
  | [], _, _, _, h, _ => by simp at h
  | d :: ps, 0, p, q, h, hq => by simp at h; subst h; rw [List.set_cons_zero, totP_cons, totP_cons]; omega
  | d :: ps, k + 1, p, q, h, hq => by
    have := totP_same (ps := ps) (k := k) (p := p) (q := q) (by simpa using h) hq
    rw [List.set_cons_succ, totP_cons, totP_cons]
    omega
theorem pg_some {W : World} {B k : Nat} {v : Value} {ds : List BkD} {qs : List BkR} {b : BkR} (h : NewBs W B v ds qs) (hb : qs[k]? = some b) (h8 : 0 < b.ps.length) : ∃ P, b.a = some ⟨P, 0, none⟩ := by
  have h1 : OwnE pgE 55 W (.slice b.a b.ps.length b.cap) b.ps.length b.ps := (h.own.2 b (List.mem_of_getElem? hb)).1
  rcases h1.cases with ⟨_, h2, _⟩ | ⟨g, c, h0, _⟩
  · rw [h2] at h8
    simp at h8
  · simp only [Value.slice.injEq] at h0
    exact ⟨g, h0.1⟩
theorem pg_row {W : World} {B k P : Nat} {v : Value} {ds : List BkD} {qs : List BkR} {b : BkR} (h : NewBs W B v ds qs) (hb : qs[k]? = some b) (hP : b.a = some ⟨P, 0, none⟩) : OwnE pgE 55 W (.slice (some ⟨P, 0, none⟩) b.ps.length b.cap) b.ps.length b.ps := by
  have h1 : OwnE pgE 55 W (.slice b.a b.ps.length b.cap) b.ps.length b.ps := (h.own.2 b (List.mem_of_getElem? hb)).1
  rw [hP] at h1
  exact h1
set_option maxRecDepth 100000 in
set_option maxHeartbeats 16000000 in
theorem l10AnyS (gc n cap : Nat) (a : Option Addr) (zs : List Int) (w : World) (h : Src w gc n cap a zs) :
    Calls Tryd.prog 19 #[.pointer (some ⟨gc, 0, none⟩)] w (DyA w gc n cap a zs) := by
  have hgc := h.cur.lt
  have B0 : Below w.heap.size w (w.alloc (.cells #[.slice none 0 0] 26)) := (Below.refl _ w).alloc (Nat.le_refl _) _
  have z0 := Blk.new w 26 #[.slice none 0 0]
  have h0 := h.keep B0
  generalize hGP : DyA w gc n cap a zs = P
  have HGP : Hid _ := hGP
  clear hGP h
  obtain ⟨H, hH⟩ : ∃ H, w.heap.size = H := ⟨_, rfl⟩
  have HH : Hid _ := hH
  rw [hH] at z0
  go_enter Tryd.func19, Tryd.ntmps19
  go_wp2_with fail
  obtain ⟨W0, hW0⟩ : ∃ W, w.alloc (.cells #[.slice none 0 0] 26) = W := ⟨_, rfl⟩
  rw [hW0] at B0 z0 h0 ⊢
  try rw [hH]
  clear hW0
  have hgH : gc < H := by omega
  have HB0 : Hid (Below w.heap.size w W0) := B0
  have hW0s : H < W0.heap.size := z0.lt
  clear B0 hH
  refine (l10DrawS gc n cap a zs W0 h0).mono ?_
  rintro e w2 ⟨va, vn, vc, qs, ds, rfl, hq, hl, hok, hs2, sv2⟩
  have z2 := Blk.svs z0 sv2 (by simp; omega)
  have hdl : ds.length = vn := by rw [← hq.len, hl]
  have hvn : 3 ≤ vn ∧ vn ≤ 24 := by have := hok.1; have := hok.2.1; omega
  obtain ⟨g, rfl⟩ : ∃ g, va = some ⟨g, 0, none⟩ := by
    rcases (show OwnE bkE 34 w2 (.slice va vn vc) qs.length qs from hq.own.1).cases with ⟨_, _, h0⟩ | ⟨g, c, h0, _⟩
    · rw [h0] at hl
      simp at hl
      omega
    · simp only [Value.slice.injEq] at h0
      exact ⟨g, h0.1⟩
  have b3 : Below w2.heap.size w2 (w2.alloc (.cells #[.slice (some ⟨g, 0, none⟩) vn vc] 26)) := (Below.refl _ _).alloc (Nat.le_refl _) _
  have zX := Blk.new w2 26 #[.slice (some ⟨g, 0, none⟩) vn vc]
  have hXf : w2.heap.size ∉ fpBs (.slice (some ⟨g, 0, none⟩) vn vc) qs := fun hf => by have := hq.own.lt _ hf; omega
  obtain ⟨X, hX⟩ : ∃ X, w2.heap.size = X := ⟨_, rfl⟩
  have dc3 : DC W0 (w2.alloc (.cells #[.slice (some ⟨g, 0, none⟩) vn vc] 26)) X ds (some ⟨g, 0, none⟩) vn vc qs := ⟨hq.keep b3, hl, hok, by rw [← hX]; exact zX, by rw [← hX]; exact hXf, by have := sv2.size; omega⟩
  have h3 := hs2.keep b3
  have z3 := z2.keep b3
  have sv3 : Sv [gc] w (w2.alloc (.cells #[.slice (some ⟨g, 0, none⟩) vn vc] 26)) := ((Below.sv HB0.out _).trans sv2).trans (Below.sv b3 _)
  have hXH : H < X := by have := sv2.size; omega
  clear zX hq b3 z0 z2 h0 hs2 sv2 hXf hok
  go_wp2_with fail
  obtain ⟨W3, hW3⟩ : ∃ W, w2.alloc (.cells #[.slice (some ⟨g, 0, none⟩) vn vc] 26) = W := ⟨_, rfl⟩
  rw [hW3] at dc3 h3 z3 sv3 ⊢
  try rw [hX]
  clear hW3 hX
  refine (below_step gc n cap a zs vn W3 h3 (by omega) (by omega)).mono ?_
  rintro e w4 ⟨k, rfl, hk, h4, gr4⟩
  have hki : (k : Int) < (vn : Int) := by omega
  have dc4 := dc3.svs (sv_grown gr4) (by omega)
  have z4 := Blk.svs z3 (sv_grown gr4) (by simp; omega)
  have sv4 := sv3.trans (sv_grown gr4)
  clear dc3 z3 sv3 h3 gr4
  go_wp2_with fail
  refine (below_step gc n cap a zs 16 w4 h4 (by omega) (by omega)).mono ?_
  rintro e w5 ⟨y, rfl, hy, h5, gr5⟩
  have dc5 := dc4.svs (sv_grown gr5) (by omega)
  have z5 := Blk.svs z4 (sv_grown gr5) (by simp; omega)
  have sv5 := sv4.trans (sv_grown gr5)
  clear dc4 z4 sv4 h4 gr5
  obtain ⟨b, hb⟩ : ∃ b, qs[k]? = some b := ⟨_, List.getElem?_eq_getElem (by omega)⟩
  have hbok : BkOk b.D := dc5.ok.2.2 _ (by rw [← dc5.bs.D]; exact List.mem_map_of_mem (List.mem_of_getElem? hb))
  have hb8 : b.ps.length = 8 := by have := hbok.1; simpa [BkR.D] using this
  have htot := ok_tot2 dc5.ok
  have hHB : H < W0.heap.size := hW0s
  have hHw := HH.out
  have hbD : ds[k]? = some b.D := by rw [← dc5.bs.D, List.getElem?_map, hb]; rfl
  obtain ⟨Pb, hPb⟩ := pg_some dc5.bs hb (by omega)
  have hOw : OwnE bkE 34 w5 (.slice (some ⟨g, 0, none⟩) vn vc) vn qs := by have := dc5.bs.own.1; rw [dc5.n] at this; exact this
  have v0 : w5.cell? ⟨g, k * 3, none⟩ = some (.slice (some ⟨Pb, 0, none⟩) 8 b.cap) := by rw [← hPb, ← hb8]; exact hOw.cell k 0 b hb (by decide)
  have hvc : vn ≤ vc := ownE_cap hOw
  have hPf : Pb ∈ fpBs (.slice (some ⟨g, 0, none⟩) vn vc) qs := fpBs_bk (List.mem_of_getElem? hb) (fpPs_row (by unfold BkR.v; rw [hPb]; rfl))
  have hPX : X ≠ Pb := fun e => dc5.xf (e ▸ hPf)
  have hgX : X ≠ g := fun e => dc5.xf (e ▸ fpBs_row rfl)
  have hPn := dc5.bs.new Pb hPf
  have hgn := dc5.bs.new g (fpBs_row rfl)
  obtain ⟨p7, hp7⟩ : ∃ p, b.ps[7]? = some p := ⟨_, List.getElem?_eq_getElem (by omega)⟩
  have hPs := pg_row dc5.bs hb hPb
  have hb8c : 8 ≤ b.cap := by have := ownE_cap hPs; omega
  have hgH2 : w.heap.size ≤ H := by omega
  have x5 := dc5.x.cell 0
  simp at x5
  go_upto_block 0 with fail
  go_cut [14] (fun _ wx => DyC w wx W0.heap.size H X gc n cap a zs)
  case first =>
    have hyc : y = 0 ∨ y = 1 ∨ y = 2 ∨ y = 3 ∨ y = 4 ∨ 5 ≤ y := by omega
    rcases hyc with rfl | rfl | rfl | rfl | rfl | hy5
    · -- the wear
      have hD5 : Below w5.heap.size w5 (w5.alloc (.cells #[.int .i64 (-1), .int .i64 100000, .int .i64 100001] 3)).drew := ((Below.refl _ w5).alloc (Nat.le_refl _) _).drew
      have dS := dc5.keep hD5
      have hS := h5.keep hD5
      have zS := z5.keep hD5
      have svS := sv5.trans (Below.sv hD5 _)
      have xS := dS.x.cell 0
      simp at xS
      have hlt5 := h5.cur.lt
      have hcI := int_step gc n cap a zs w5.heap.size 3 [-1, 100000, 100001] _ hS rfl (by omega) (by omega) (by omega) (fun j hj => ints_cells w5 [-1, 100000, 100001] 3 j hj)
      have hcI' := int_step gc n cap a zs w5.heap.size 3 [-1, 100000, 100001] _ (h5.alloc (.cells #[.int .i64 (-1), .int .i64 100000, .int .i64 100001] 3)) rfl (by omega) (by omega) (by omega) (fun j hj => ints_cells w5 [-1, 100000, 100001] 3 j hj)
      go_upto_region 5 with fail
      go_region_law (first
        | (go_simp; go_at_call 39; (with_reducible refine hcI.mono ?_); rintro e w6 ⟨k5, rfl, hk5, s6, g6⟩; obtain ⟨iq, hiq⟩ : ∃ z, ([-1, 100000, 100001] : List Int).getD k5 0 = z := ⟨_, rfl⟩; rw [hiq]; clear hiq; have d6 := dS.svs (sv_grown g6) (by omega); have z6 := Blk.svs zS (sv_grown g6) (by simp; omega); have sv6 := svS.trans (sv_grown g6); have x6 := d6.x.cell 0; (simp at x6); have hO6 : OwnE bkE 34 w6 (.slice (some ⟨g, 0, none⟩) vn vc) vn qs := (by have := d6.bs.own.1; rw [d6.n] at this; exact this); have q6 := hO6.cell k 1 b hb (by decide); have qf6 := hO6.frozen (k * 3 + 1); (simp [bkE] at q6); dsimp only)
        | fail)
      all_goals
        have bs7 := d6.bs.wear d6.n hb iq
        have a7 := bs7.acr (by rw [List.length_set]; exact d6.n) (Nat.le_trans (totB_set ds k b.D _ hbD (Nat.le_refl _)) (by omega))
        have x7 := d6.x.other (B' := g) (Ne.symm hgX |> fun h e => h e.symm) (k * 3 + 1) (.int .i64 iq)
        have z7 := z6.other (B' := g) (by omega) (k * 3 + 1) (.int .i64 iq)
        have h7 := s6.set (X := g) (i := k * 3 + 1) (v := .int .i64 iq) (by omega)
        have sv7 := sv_new (X := g) (i := k * 3 + 1) (v := .int .i64 iq) sv6 (by omega)
        have HE : Hid (DyC w (w6.setCell ⟨g, k * 3 + 1, none⟩ (.int .i64 iq)) W0.heap.size H X gc n cap a zs) := ⟨_, _, _, _, x7, a7, by omega, h7, sv7, z7⟩
        clear bs7 a7 x7 z7 h7 sv7
        go_wp2_with fail
        go_meet
        exact HE.out
    · -- a page that says that it is written
      have q0 : w5.cell? ⟨Pb, 14, none⟩ = some (.bool p7.used) := hPs.cell 7 0 p7 hp7 (by decide)
      have qf : w5.frozen? ⟨Pb, 14, none⟩ = false := hPs.frozen 14
      have bs7 := dc5.bs.used dc5.n hb hPb hp7
      have a7 := bs7.acr (by rw [List.length_set]; exact dc5.n) (Nat.le_trans (totB_set ds k b.D _ hbD (totP_same (p := p7.D) (by rw [List.getElem?_map, hp7]; rfl) (Nat.le_refl _))) (by omega))
      have x7 := dc5.x.other (B' := Pb) hPX 14 (.bool true)
      have z7 := z5.other (B' := Pb) (by omega) 14 (.bool true)
      have h7 := h5.set (X := Pb) (i := 14) (v := .bool true) (by omega)
      have sv7 := sv_new (X := Pb) (i := 14) (v := .bool true) sv5 (by omega)
      have HE : Hid (DyC w (w5.setCell ⟨Pb, 14, none⟩ (.bool true)) W0.heap.size H X gc n cap a zs) := ⟨_, _, _, _, x7, a7, by omega, h7, sv7, z7⟩
      clear dc5 z5 sv5 h5 bs7 a7 x7 z7 h7 sv7
      go_wp2_with fail
      go_meet
      exact HE.out
    · -- a page of other bytes
      have b6 : Below w5.heap.size w5 (w5.alloc (.cells #[.int .u8 1] 5)) := (Below.refl _ w5).alloc (Nat.le_refl _) _
      have q0 : (w5.alloc (.cells #[.int .u8 1] 5)).cell? ⟨Pb, 15, none⟩ = some p7.v := (OwnE.keep hPs b6).cell 7 1 p7 hp7 (by decide)
      have qf : (w5.alloc (.cells #[.int .u8 1] 5)).frozen? ⟨Pb, 15, none⟩ = false := (OwnE.keep hPs b6).frozen 15
      have bs7 := dc5.bs.bytes dc5.n hb hPb hp7 b6 rfl (rowB_one w5 1) (Nat.le_refl _) (fun j hj => by simp [Value.ownBlock] at hj; omega)
      have htp : totP b.D.ps ≤ totB ds := totP_leB (List.mem_of_getElem? hbD)
      have a7 := bs7.acr (by rw [List.length_set]; exact dc5.n) (by
        have h1 := totB_setY ds k ⟨(b.ps.map PgR.D).set 7 ⟨p7.used, [1]⟩, b.wear, b.bad⟩
        have h2 := totP_setY (b.ps.map PgR.D) 7 ⟨p7.used, [1]⟩
        have h3 : totP (b.ps.map PgR.D) ≤ totB ds := htp
        have h4 : ([1] : List Int).length = 1 := rfl
        dsimp only at h1 h2
        omega)
      have x7 := (dc5.x.keep b6).other (B' := Pb) hPX 15 (.slice (some ⟨w5.heap.size, 0, none⟩) 1 1)
      have z7 := (z5.keep b6).other (B' := Pb) (by omega) 15 (.slice (some ⟨w5.heap.size, 0, none⟩) 1 1)
      have h7 := (h5.keep b6).set (X := Pb) (i := 15) (v := .slice (some ⟨w5.heap.size, 0, none⟩) 1 1) (by omega)
      have sv7 := sv_new (X := Pb) (i := 15) (v := .slice (some ⟨w5.heap.size, 0, none⟩) 1 1) (sv5.trans (Below.sv b6 _)) (by omega)
      have HE : Hid (DyC w ((w5.alloc (.cells #[.int .u8 1] 5)).setCell ⟨Pb, 15, none⟩ (.slice (some ⟨w5.heap.size, 0, none⟩) 1 1)) W0.heap.size H X gc n cap a zs) := ⟨_, _, _, _, x7, a7, by omega, h7, sv7, z7⟩
      clear dc5 z5 sv5 h5 bs7 a7 x7 z7 h7 sv7 b6
      go_wp2_with fail
      go_meet
      exact HE.out
    · -- a page less
      have qf := hOw.frozen (k * 3)
      have hd7 : (b.ps.drop 1).length = 7 := by rw [List.length_drop]; omega
      have D0 := (Below.refl w5.heap.size w5).drew
      have hcut := (dc5.bs.keep D0).cut (cp := b.cap - 1) dc5.n hb hPb (by omega)
      rw [hd7] at hcut
      have x7 := (dc5.x.keep D0).other (B' := g) hgX (k * 3) (.slice (some ⟨Pb, 2, none⟩) 7 (b.cap - 1))
      have z7 := (z5.keep D0).other (B' := g) (by omega) (k * 3) (.slice (some ⟨Pb, 2, none⟩) 7 (b.cap - 1))
      have h7 := (h5.keep D0).set (X := g) (i := k * 3) (v := .slice (some ⟨Pb, 2, none⟩) 7 (b.cap - 1)) (by omega)
      have sv7 := sv_new (X := g) (i := k * 3) (v := .slice (some ⟨Pb, 2, none⟩) 7 (b.cap - 1)) (sv5.trans (Below.sv D0 _)) (by omega)
      have xd : w5.drew.cell? ⟨X, 0, none⟩ = some (.slice (some ⟨g, 0, none⟩) vn vc) := x5
      have vd : w5.drew.cell? ⟨g, k * 3, none⟩ = some (.slice (some ⟨Pb, 0, none⟩) 8 b.cap) := v0
      have HE : Hid (DyC w (w5.drew.setCell ⟨g, k * 3, none⟩ (.slice (some ⟨Pb, 2, none⟩) 7 (b.cap - 1))) W0.heap.size H X gc n cap a zs) := ⟨_, _, _, _, x7, hcut, by omega, h7, sv7, z7⟩
      clear dc5 z5 sv5 h5 x7 z7 h7 sv7 hcut D0
      go_upto_region 11 with fail
      go_region_with fail
      all_goals (go_wp2_with fail; go_meet; exact HE.out)
    · -- two blocks alone
      have c0 := dc5.x.cell 0
      have f0 := dc5.x.frozen 0
      simp at c0
      have hv2 : 2 ≤ vc := by omega
      have x7 := dc5.x.set 0 (.slice (some ⟨g, 0, none⟩) 2 vc)
      have z7 := z5.other (B' := X) (by omega) 0 (.slice (some ⟨g, 0, none⟩) 2 vc)
      have bsF := dc5.bs.svs (sv_at (F := [X]) (X := X) w5 (i := 0) (v := .slice (some ⟨g, 0, none⟩) 2 vc) (by simp)) (fun j hj hf => by
        simp at hf
        subst hf
        exact dc5.xf hj)
      have a7 := (bsF.acr dc5.n (by omega)).take 2 (by omega)
      have h7 := h5.set (X := X) (i := 0) (v := .slice (some ⟨g, 0, none⟩) 2 vc) (by omega)
      have sv7 := sv_new (X := X) (i := 0) (v := .slice (some ⟨g, 0, none⟩) 2 vc) sv5 (by omega)
      have HE : Hid (DyC w (w5.setCell ⟨X, 0, none⟩ (.slice (some ⟨g, 0, none⟩) 2 vc)) W0.heap.size H X gc n cap a zs) := ⟨_, _, _, _, x7, a7, by omega, h7, sv7, z7⟩
      clear dc5 z5 sv5 h5 x7 z7 bsF a7 h7 sv7
      go_wp2_with fail
      go_meet
      exact HE.out
    · have hy0 : ((y : Int) == 0) = false := by simp; omega
      have hy1 : ((y : Int) == 1) = false := by simp; omega
      have hy2 : ((y : Int) == 2) = false := by simp; omega
      have hy3 : ((y : Int) == 3) = false := by simp; omega
      have hy4 : ((y : Int) == 4) = false := by simp; omega
      have a7 := dc5.bs.acr dc5.n (by omega)
      have HE : Hid (DyC w w5 W0.heap.size H X gc n cap a zs) := ⟨_, _, _, _, dc5.x, a7, by omega, h5, sv5, z5⟩
      clear dc5 z5 sv5 h5 a7
      go_wp2_with fail
      go_meet
      exact HE.out
  case rest =>
  obtain ⟨va', vn', vc', qs', xc, ac, hl', hs6, sv6, z6⟩ := hcut
  obtain ⟨w6, hwc⟩ : ∃ W, W = wc := ⟨_, rfl⟩
  subst hwc
  have fX := xc.cell 0
  simp at fX
  have fH := z6.cell 0
  have fF := z6.frozen 0
  simp at fH
  have d0 := (z6.set 0 (.slice va' vn' vc')).cell 0
  simp at d0
  have HE : Hid (DyA w gc n cap a zs (.returned (.agg #[.slice va' vn' vc'])) (w6.setCell ⟨H, 0, none⟩ (.slice va' vn' vc'))) := ⟨_, _, _, _, rfl, (ac.far hHB _).less (by omega), hl', hs6.set (by omega), sv_new sv6 (by omega)⟩
  clear dc5 z5 sv5 h5 x5 xc ac hs6 sv6 z6 hPs hOw v0
  go_wp2
  refine bodyPost_ret (v := .agg #[.slice va' vn' vc']) (by simp [results, Tryd.f19, go_sem, d0]) rfl ?_
  rw [← HGP.out]
  exact HE.out
end

section
open Go.RowKit
theorem wrap64_small {x : Int} (h0 : -1000000000000 ≤ x) (h1 : x ≤ 1000000000000) : wrap64 x = x := by unfold wrap64; omega
theorem wornL_sum (l : List Int) (h : ∀ x ∈ l, 0 ≤ x ∧ x ≤ 1000000) (hl : l.length ≤ 1000) : wornL l = l.sum ∧ 0 ≤ l.sum ∧ l.sum ≤ 1000000 * (l.length : Int) := by
  unfold wornL
  have : ∀ (l : List Int) (s : Int), (∀ x ∈ l, 0 ≤ x ∧ x ≤ 1000000) → 0 ≤ s → s + 1000000 * (l.length : Int) ≤ 1000000000000 → l.foldl (fun n x => wrap64 (n + x)) s = s + l.sum ∧ 0 ≤ l.sum ∧ l.sum ≤ 1000000 * (l.length : Int) := by
    intro l
    induction l with
    | nil => intro s _ _ _; simp
    | cons x l ih =>
      intro s hx hs hb
      have h1 := hx x (by simp)
      simp only [List.length_cons] at hb
      have hw : wrap64 (s + x) = s + x := wrap64_small (by omega) (by omega)
      have h2 := ih (s + x) (fun y hy => hx y (by simp [hy])) (by omega) (by omega)
      simp only [List.foldl_cons, List.sum_cons, List.length_cons]
      rw [hw]
      omega
  have h3 := this l 0 h (by omega) (by omega)
  omega
theorem sum_set : ∀ (l : List Int) (k : Nat) (y : Int), l[k]? = some y → (l.set k (y + 1)).sum = l.sum + 1
  | [], _, _, h => by simp at h
  | x :: l, 0, y, h => by simp at h; subst h; simp; omega
  | x :: l, k + 1, y, h => by
    have := sum_set l k y (by simpa using h)
    simp only [List.set_cons_succ, List.sum_cons]
    omega
/-- The block behind an erase. -/
def bkE1 (b : BkD) : BkD := ⟨List.replicate 8 ⟨false, []⟩, b.wear + 1, b.bad⟩
structure Erased (ds : List BkD) (x : Int) (k : Nat) (b : BkD) : Prop where
  ok : ChOk ds
  xk : x = (k : Int)
  at_ : ds[k]? = some b
  new : eraseD (chipOkB ds) ds x = ds.set k (bkE1 b)
  ok2 : ChOk (ds.set k (bkE1 b))
theorem erased_of {ds : List BkD} {x : Int} (h : codeE (chipOkB ds) ds x = 0) : ∃ k b, Erased ds x k b := by
  have h0 := h
  unfold codeE mayD at h
  split at h
  · omega
  · rename_i h1
    have hc : chipOkB ds = true := by
      cases hb : chipOkB ds with
      | true => rfl
      | false => exact absurd (.inl hb) h1
    have hok : ChOk ds := (chipOkB_iff ds).1 hc
    have hx : 0 ≤ x ∧ x < (ds.length : Int) := by
      have a1 : ¬ x < 0 := fun e => h1 (.inr (.inl e))
      have a2 : ¬ (ds.length : Int) ≤ x := fun e => h1 (.inr (.inr e))
      omega
    obtain ⟨k, rfl⟩ : ∃ k : Nat, x = (k : Int) := ⟨x.toNat, by omega⟩
    have hk : k < ds.length := by omega
    have hat : ds[k]? = some ds[k] := List.getElem?_eq_getElem hk
    have hn : eraseD (chipOkB ds) ds (k : Int) = ds.set k (bkE1 ds[k]) := by
      unfold eraseD
      rw [if_pos h0]
      unfold eraseAt
      rw [show ((k : Int)).toNat = k by omega, hat]
      rfl
    refine ⟨k, ds[k], hok, rfl, hat, hn, ?_⟩
    rw [← hn, hc]
    exact ok_erase hok _
theorem Erased.len {ds : List BkD} {x : Int} {k : Nat} {b : BkD} (h : Erased ds x k b) : k < ds.length := (List.getElem?_eq_some_iff.1 h.at_).1
theorem Erased.other {ds : List BkD} {x : Int} {k i : Nat} {b : BkD} (_h : Erased ds x k b) (hi : i ≠ k) : nextD (ds.set k (bkE1 b)) (i : Int) = nextD ds (i : Int) ∧ (ds.set k (bkE1 b))[i]? = ds[i]? := by
  have e : (ds.set k (bkE1 b))[i]? = ds[i]? := List.getElem?_set_ne (Ne.symm hi)
  refine ⟨?_, e⟩
  unfold nextD
  rw [if_pos (by omega), if_pos (by omega), show ((i : Int)).toNat = i by omega, e]
theorem Erased.self {ds : List BkD} {x : Int} {k : Nat} {b : BkD} (h : Erased ds x k b) : nextD (ds.set k (bkE1 b)) (k : Int) = 0 ∧ (ds.set k (bkE1 b))[k]? = some (bkE1 b) := by
  have e : (ds.set k (bkE1 b))[k]? = some (bkE1 b) := List.getElem?_set_self h.len
  refine ⟨?_, e⟩
  unfold nextD
  rw [if_pos (by omega), show ((k : Int)).toNat = k by omega, e]
  rfl
theorem Erased.worn {ds : List BkD} {x : Int} {k : Nat} {b : BkD} (h : Erased ds x k b) : wornD (ds.set k (bkE1 b)) = wornD ds + 1 ∧ 0 ≤ wornD ds ∧ wornD ds ≤ 24000000 := by
  have hl := h.ok.2.1
  have hw : ∀ y ∈ ds.map BkD.wear, 0 ≤ y ∧ y ≤ 1000000 := fun y hy => by
    obtain ⟨d, hd, rfl⟩ := List.mem_map.1 hy
    have := h.ok.2.2 d hd
    exact ⟨this.2.1, by have := this.2.2.1; omega⟩
  have hw2 : ∀ y ∈ (ds.set k (bkE1 b)).map BkD.wear, 0 ≤ y ∧ y ≤ 1000000 := fun y hy => by
    obtain ⟨d, hd, rfl⟩ := List.mem_map.1 hy
    have := h.ok2.2.2 d hd
    exact ⟨this.2.1, by have := this.2.2.1; omega⟩
  have h1 := wornL_sum (ds.map BkD.wear) hw (by simp; omega)
  have h2 := wornL_sum ((ds.set k (bkE1 b)).map BkD.wear) hw2 (by simp; omega)
  have h3 : (ds.set k (bkE1 b)).map BkD.wear = (ds.map BkD.wear).set k (b.wear + 1) := by rw [List.map_set]; rfl
  have h4 := sum_set (ds.map BkD.wear) k b.wear (by rw [List.getElem?_map, h.at_]; rfl)
  rw [h3] at h2
  unfold wornD
  rw [h3]
  rw [List.length_map] at h1
  omega
theorem Erased.wear {ds : List BkD} {x : Int} {k : Nat} {b : BkD} (h : Erased ds x k b) : 0 ≤ b.wear ∧ b.wear ≤ 100000 := by
  have := h.ok.2.2 b (List.mem_of_getElem? h.at_)
  exact ⟨this.2.1, this.2.2.1⟩
end
end Go.Proofs.YtcohppfocfepdaaDoor
