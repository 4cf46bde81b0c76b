/-
  Joined: DrAy, DrCb, LdY.
-/
import Derived.Test.YtpejfkgbfdkdnaaJ36B
namespace Go.Proofs.Ytpejfkgbfdkdnaa
section
open Go.RowKit
theorem ok_tot2 {ds : List BkD} (h : ChOk ds) : totB ds ≤ 100000 := by
  have hb : ∀ b ∈ ds, totP b.ps ≤ 3208 := fun b hb => by
    have h1 := h.2.2 b hb
    have h2 := totP_bound b.ps (fun p hp => by
      obtain ⟨i, hi⟩ := List.mem_iff_getElem?.1 hp
      have := (h1.2.2.2 i p hi).1
      unfold pgOk at this
      simp at this
      exact this.1)
    rw [h1.1] at h2
    omega
  have h3 := totB_bound ds hb
  have h4 := h.2.1
  omega
theorem totB_setY : ∀ (ds : List BkD) (k : Nat) (b' : BkD), totB (ds.set k b') ≤ totB ds + 1 + totP b'.ps
  | [], _, _ => by simp [totB]
  | d :: ds, 0, b' => by rw [List.set_cons_zero, totB_cons, totB_cons]; omega
  | d :: ds, k + 1, b' => by
    have := totB_setY ds k b'
    rw [List.set_cons_succ, totB_cons, totB_cons]
    omega
theorem totP_setY : ∀ (ps : List PgD) (k : Nat) (q : PgD), totP (ps.set k q) ≤ totP ps + 1 + q.zs.length
  | [], _, _ => by simp [totP]
  | d :: ps, 0, q => by rw [List.set_cons_zero, totP_cons, totP_cons]; omega
  | d :: ps, k + 1, q => by
    have := totP_setY ps k q
    rw [List.set_cons_succ, totP_cons, totP_cons]
    omega
theorem totP_leB {ds : List BkD} {b : BkD} (h : b ∈ ds) : totP b.ps ≤ totB ds := by
  induction ds with
  | nil => simp at h
  | cons d ds ih =>
    rw [totB_cons]
    rcases List.mem_cons.1 h with rfl | h1
    · omega
    · have := ih h1
      omega
theorem ownE_cap {α : Type} {E : El α} {ty : TypeId} {w : World} {a : Option Addr} {n c m : Nat} {rs : List α} (h : OwnE E ty w (.slice a n c) m rs) : n ≤ c := by
  rcases h.2 with ⟨h1, h2⟩ | ⟨g', c', cur, h1, _, _, h2, _⟩
  · simp only [Value.slice.injEq] at h1; omega
  · simp only [Value.slice.injEq] at h1; omega
theorem rowB_one (w : World) (z : Int) : RowB (w.alloc (.cells #[.int .u8 z] 5)) (.slice (some ⟨w.heap.size, 0, none⟩) 1 1) 1 [z] :=
  ⟨rfl, .inr ⟨w.heap.size, 1, #[.int .u8 z], (0, 0), rfl, heap_alloc_new w _, by simp, fun i hi => by obtain rfl := (show i = 0 by omega); rfl, .inr rfl⟩⟩
theorem sv_at {F : List Nat} {X i : Nat} {v : Value} (w : World) (h : X ∈ F) : Sv F w (w.setCell ⟨X, i, none⟩ v) :=
  ⟨rfl, rfl, rfl, by rw [size_setC]; exact Nat.le_refl _, fun k _ hn => Below.heap_setCell _ _ _ _ (fun e => hn (e ▸ h))⟩
theorem totP_same : ∀ {ps : List PgD} {k : Nat} {p q : PgD}, ps[k]? = some p → q.zs.length ≤ p.zs.length → totP (ps.set k q) ≤ totP ps
  | [], _, _, _, h, _ => by simp at h
  | d :: ps, 0, p, q, h, hq => by simp at h; subst h; rw [List.set_cons_zero, totP_cons, totP_cons]; omega
  | d :: ps, k + 1, p, q, h, hq => by
    have := totP_same (ps := ps) (k := k) (p := p) (q := q) (by simpa using h) hq
    rw [List.set_cons_succ, totP_cons, totP_cons]
    omega
theorem pg_some {W : World} {B k : Nat} {v : Value} {ds : List BkD} {qs : List BkR} {b : BkR} (h : NewBs W B v ds qs) (hb : qs[k]? = some b) (h8 : 0 < b.ps.length) : ∃ P, b.a = some ⟨P, 0, none⟩ := by
  have h1 : OwnE pgE 74 W (.slice b.a b.ps.length b.cap) b.ps.length b.ps := (h.own.2 b (List.mem_of_getElem? hb)).1
  rcases h1.cases with ⟨_, h2, _⟩ | ⟨g, c, h0, _⟩
  · rw [h2] at h8
    simp at h8
  · simp only [Value.slice.injEq] at h0
    exact ⟨g, h0.1⟩
theorem pg_row {W : World} {B k P : Nat} {v : Value} {ds : List BkD} {qs : List BkR} {b : BkR} (h : NewBs W B v ds qs) (hb : qs[k]? = some b) (hP : b.a = some ⟨P, 0, none⟩) : OwnE pgE 74 W (.slice (some ⟨P, 0, none⟩) b.ps.length b.cap) b.ps.length b.ps := by
  have h1 : OwnE pgE 74 W (.slice b.a b.ps.length b.cap) b.ps.length b.ps := (h.own.2 b (List.mem_of_getElem? hb)).1
  rw [hP] at h1
  exact h1
end

section
open Go.RowKit
theorem bytC_eraseD {ds : List BkD} (h : BytC ds) {ok : Bool} (x : Int) : BytC (eraseD ok ds x) := by
  unfold eraseD
  split
  · exact bytC_erase h _
  · exact h
theorem bytC_programD {ds : List BkD} (h : BytC ds) {ok : Bool} (x : Int) {zs : List Int} (hz : Byt zs) : BytC (programD ok ds x zs) := by
  unfold programD
  split
  · exact bytC_prog h _ hz
  · exact h
/-- What l10Draw answers: its pages hold bytes, too. -/
def DrAb (w : World) (gc n cap : Nat) (a : Option Addr) (zs : List Int) (e : Ending) (w' : World) : Prop := ∃ va vn vc qs ds, e = .returned (.agg #[.slice va vn vc]) ∧ NewBs w' w.heap.size (.slice va vn vc) ds qs ∧ qs.length = vn ∧ ChOk ds ∧ BytC ds ∧ Src w' gc n cap a zs ∧ Sv [gc] w w'
set_option maxRecDepth 100000 in
set_option maxHeartbeats 16000000 in
theorem l10DrawB (gc n cap : Nat) (a : Option Addr) (zs : List Int) (w : World) (h : Src w gc n cap a zs) :
    Calls Try.prog 76 #[.pointer (some ⟨gc, 0, none⟩)] w (DrAb w gc n cap a zs) := by
  have hgc := h.cur.lt
  have B0 : Below w.heap.size w (w.alloc (.cells #[.slice none 0 0] 26)) := (Below.refl _ w).alloc (Nat.le_refl _) _
  have z0 := Blk.new w 26 #[.slice none 0 0]
  have h0 := h.keep B0
  generalize hGP : DrAb w gc n cap a zs = P
  have HGP : Hid _ := hGP
  clear hGP h
  obtain ⟨H, hH⟩ : ∃ H, w.heap.size = H := ⟨_, rfl⟩
  have HH : Hid _ := hH
  rw [hH] at z0
  go_enter Try.func76, Try.ntmps76
  go_wp2_with fail
  obtain ⟨W0, hW0⟩ : ∃ W, w.alloc (.cells #[.slice none 0 0] 26) = W := ⟨_, rfl⟩
  rw [hW0] at B0 z0 h0 ⊢
  try rw [hH]
  clear hW0
  have hgH : gc < H := by omega
  have HB0 : Hid (Below w.heap.size w W0) := B0
  have hW0s : H < W0.heap.size := z0.lt
  clear B0 hH
  refine (below_step gc n cap a zs 3 W0 h0 (by omega) (by omega)).mono ?_
  rintro e w1 ⟨y, rfl, hy, h1, gr1⟩
  have sv1 := sv_grown gr1
  have z1 := Blk.svs z0 sv1 (by simp; omega)
  clear h0 z0 gr1
  have hyi : (y : Int) < 3 := by omega
  go_wp2_with fail
  refine (chipNewS _ w1).mono ?_
  rintro e w2 ⟨va, vn, vc, qs, rfl, hq, hql, b2⟩
  have h2 := h1.keep b2
  have z2 := z1.keep b2
  have hok : ChOk (newD (3 + (y : Int))) := ok_new (by omega)
  have b3 : Below w2.heap.size w2 (w2.alloc (.cells #[.slice va vn vc] 26)) := (Below.refl _ _).alloc (Nat.le_refl _) _
  have zX := Blk.new w2 26 #[.slice va vn vc]
  have hW1 : w1.heap.size ≤ w2.heap.size := b2.size
  have hXf : w2.heap.size ∉ fpBs (.slice va vn vc) qs := fun hf => by have := hq.own.lt _ hf; omega
  obtain ⟨X, hX⟩ : ∃ X, w2.heap.size = X := ⟨_, rfl⟩
  have hs1 := sv1.size
  have dc3 : DC W0 (w2.alloc (.cells #[.slice va vn vc] 26)) X (newD (3 + (y : Int))) va vn vc qs := ⟨(hq.keep b3).wider (by have := HB0.out.size; omega), hql, hok, by rw [← hX]; exact zX, by rw [← hX]; exact hXf, by have := HB0.out.size; omega⟩
  have h3 := h2.keep b3
  have z3 := z2.keep b3
  have svw : Sv [gc] w (w2.alloc (.cells #[.slice va vn vc] 26)) := ((Below.sv HB0.out _).trans sv1).trans ((Below.sv b2 _).trans (Below.sv b3 _))
  have hXH : H < X := by have := HH.out; have := HB0.out.size; omega
  clear zX hq hql b2 h1 h2 z1 z2 hXf hok
  go_wp2_with fail
  obtain ⟨W3, hW3⟩ : ∃ W, w2.alloc (.cells #[.slice va vn vc] 26) = W := ⟨_, rfl⟩
  rw [hW3] at dc3 h3 z3 svw b3 ⊢
  try rw [hX]
  clear hW3 b3 hX sv1
  refine (below_step gc n cap a zs 20 W3 h3 (by omega) (by omega)).mono ?_
  rintro e w4 ⟨y2, rfl, hy2, h4, gr4⟩
  have HST : Hid (∃ ds va vn vc qs, BytC ds ∧ DC W0 w4 X ds va vn vc qs ∧ Src w4 gc n cap a zs ∧ Blk w4 H 26 #[.slice none 0 0] ∧ Sv [gc] w w4) := ⟨_, _, _, _, _, bytC_new _, dc3.svs (sv_grown gr4) (by omega), h4, Blk.svs z3 (sv_grown gr4) (by simp; omega), svw.trans (sv_grown gr4)⟩
  clear dc3 h3 z3 svw h4 gr4
  go_wp2
  go_loopw [4] (fun i wr => ∃ j : Nat, j ≤ 20 ∧ i = .int .i64 j ∧ Hid (∃ ds va vn vc qs, BytC ds ∧ DC W0 wr X ds va vn vc qs ∧ Src wr gc n cap a zs ∧ Blk wr H 26 #[.slice none 0 0] ∧ Sv [gc] w wr)) (fun i _ => (intOf i).toNat)
  case atStart => exact ⟨y2, by omega, rfl, HST⟩
  case round =>
    obtain ⟨j, hj, rfl, hst⟩ := hrel
    clear HST
    obtain ⟨ds, va, vn, vc, qs, hbt, dc, hs, zr, sv⟩ := hst.out
    clear hst
    have hvn : 3 ≤ vn ∧ vn ≤ 24 := by have := dc.len; have := dc.ok.1; have := dc.ok.2.1; omega
    by_cases hj0 : 0 < j
    · have hji : (0 : Int) < (j : Int) := by omega
      obtain ⟨i, rfl⟩ : ∃ i, j = i + 1 := ⟨j - 1, by omega⟩
      have hwi : IntKind.i64.wrap (i : Int) = (i : Int) := wrap_small _ (by omega) (by omega)
      have x0 := dc.x.cell 0
      simp at x0
      go_wp2_with fail
      refine (below_step gc n cap a zs vn wr hs (by omega) (by omega)).mono ?_
      rintro e w5 ⟨k, rfl, hk, hs5, gr5⟩
      have dc5 := dc.svs (sv_grown gr5) (by omega)
      have zr5 := Blk.svs zr (sv_grown gr5) (by simp; omega)
      have sv5 := sv.trans (sv_grown gr5)
      clear dc zr sv hs gr5 x0
      go_wp2_with fail
      refine (once_step gc n cap a zs 6 w5 hs5 (by omega) (by omega)).mono ?_
      rintro e w6 ⟨B, rfl, hs6, gr6⟩
      have dc6 := dc5.svs (sv_grown gr6) (by omega)
      have zr6 := Blk.svs zr5 (sv_grown gr6) (by simp; omega)
      have sv6 := sv5.trans (sv_grown gr6)
      clear dc5 zr5 sv5 hs5 gr6
      have hok6 : chipOkB (qs.map BkR.D) = true := by rw [dc6.bs.D]; exact (chipOkB_iff _).2 dc6.ok
      have x6 := dc6.x.cell 0
      simp at x6
      cases B with
      | true =>
        have hcall := eraseS va vn vc qs (k : Int) w6 dc6.cr
        rw [hok6, dc6.bs.D] at hcall
        go_wp2_with fail
        refine hcall.mono ?_
        rintro e w7 ⟨va', vn', vc', qs', rfl, hq7, hl7, b7⟩
        have u0 := (dc6.x.keep b7).cell 0
        have f0 := (dc6.x.keep b7).frozen 0
        simp at u0
        have HN : Hid (∃ ds va vn vc qs, BytC ds ∧ DC W0 (w7.setCell ⟨X, 0, none⟩ (.slice va' vn' vc')) X ds va vn vc qs ∧ Src (w7.setCell ⟨X, 0, none⟩ (.slice va' vn' vc')) gc n cap a zs ∧ Blk (w7.setCell ⟨X, 0, none⟩ (.slice va' vn' vc')) H 26 #[.slice none 0 0] ∧ Sv [gc] w (w7.setCell ⟨X, 0, none⟩ (.slice va' vn' vc'))) := ⟨_, _, _, _, _, bytC_eraseD hbt _, dc6.put b7 hq7 hl7 (ok_erase dc6.ok _), (hs6.keep b7).set (by omega), (zr6.keep b7).other (B' := X) (by omega) 0 _, sv_new (sv6.trans (Below.sv b7 _)) (by have := dc6.xn; have := HH.out; omega)⟩
        clear hcall dc6 zr6 sv6 hs6 hq7 hl7 b7 x6 hok6
        go_wp2
        go_roundw
        case rel => exact ⟨i, by omega, by go_num, HN⟩
        case measure => simp [intOf]
      | false =>
        have x6d : w6.drew.cell? ⟨X, 0, none⟩ = some (.slice va vn vc) := x6
        have dc6d := dc6.keep (Below.refl w6.heap.size w6).drew
        have hs6d := hs6.keep (Below.refl w6.heap.size w6).drew
        have zr6d := zr6.keep (Below.refl w6.heap.size w6).drew
        have sv6d := sv6.trans (Below.sv (Below.refl w6.heap.size w6).drew [gc])
        go_wp2
        go_region_with (first
          | (go_at_call 29; (with_reducible refine (some_step gc n cap a zs w6.drew hs6d).mono ?_); rintro e w7 ⟨gy, my, cy, ys, rfl, hmy, hgy, hby, oy, hs7, gr7⟩; have dc7 := dc6d.svs (sv_grown gr7) (by omega); have x7 := dc7.x.cell 0; simp at x7)
          | (go_at_call 93; (with_reducible refine (programS va vn vc qs (k : Int) (some ⟨gy, 0, none⟩) my cy ys w7 oy.len2 (by omega) dc7.cr oy.rd).mono ?_); rintro e w8 ⟨va', vn', vc', qs', rfl, hq8, hl8, b8⟩; have u0 := (dc7.x.keep b8).cell 0; have f0 := (dc7.x.keep b8).frozen 0; simp at u0))
        all_goals (
          rw [hok6, dc7.bs.D] at hq8
          have HN : Hid (∃ ds va vn vc qs, BytC ds ∧ DC W0 (w8.setCell ⟨X, 0, none⟩ (.slice va' vn' vc')) X ds va vn vc qs ∧ Src (w8.setCell ⟨X, 0, none⟩ (.slice va' vn' vc')) gc n cap a zs ∧ Blk (w8.setCell ⟨X, 0, none⟩ (.slice va' vn' vc')) H 26 #[.slice none 0 0] ∧ Sv [gc] w (w8.setCell ⟨X, 0, none⟩ (.slice va' vn' vc'))) := ⟨_, _, _, _, _, bytC_programD hbt _ hby, dc7.put b8 hq8 hl8 (ok_prog dc7.ok _ _), (hs7.keep b8).set (by omega), ((Blk.svs zr6d (sv_grown gr7) (by simp; omega)).keep b8).other (B' := X) (by omega) 0 _, sv_new ((sv6d.trans (sv_grown gr7)).trans (Below.sv b8 _)) (by have := dc7.xn; have := HH.out; omega)⟩
          clear dc6 zr6 sv6 hs6 dc6d hs6d zr6d sv6d dc7 hq8 hl8 b8 x6 x6d hok6 oy hs7 gr7
          go_wp2
          go_roundw)
        all_goals first
          | (case rel => exact ⟨i, by omega, by go_num, HN⟩)
          | (case measure => simp [intOf])
    · have hji : ¬ (0 : Int) < (j : Int) := by omega
      have x0 := dc.x.cell 0
      simp at x0
      go_wp2_with fail
      refine (once_step gc n cap a zs 3 wr hs (by omega) (by omega)).mono ?_
      rintro e w5 ⟨B, rfl, hs5, gr5⟩
      have dc5 := dc.svs (sv_grown gr5) (by omega)
      have zr5 := Blk.svs zr (sv_grown gr5) (by simp; omega)
      have sv5 := sv.trans (sv_grown gr5)
      clear dc zr sv hs gr5 x0
      have x5 := dc5.x.cell 0
      simp at x5
      obtain ⟨g, rfl⟩ := dc5.some
      cases B with
      | true =>
        have x5d : w5.drew.cell? ⟨X, 0, none⟩ = some (.slice (some ⟨g, 0, none⟩) vn vc) := x5
        have dc5d := dc5.keep (Below.refl w5.heap.size w5).drew
        have hs5d := hs5.keep (Below.refl w5.heap.size w5).drew
        have zr5d := zr5.keep (Below.refl w5.heap.size w5).drew
        have sv5d := sv5.trans (Below.sv (Below.refl w5.heap.size w5).drew [gc])
        go_wp2
        go_region_with (
          (go_at_call 30; (with_reducible refine (below_step gc n cap a zs vn w5.drew hs5d (by omega) (by omega)).mono ?_); rintro e w6 ⟨k, rfl, hk, hs6, gr6⟩; have dc6 := dc5d.svs (sv_grown gr6) (by omega); have hki : (k : Int) < (vn : Int) := (by omega); obtain ⟨b, hb, v0, vf, x6⟩ := dc6.bk k hk; skip))
        all_goals (
          have hgn := dc6.bs.new g (fpBs_row rfl)
          have hgX : X ≠ g := fun e => dc6.xf (e ▸ fpBs_row rfl)
          have hbd : BkOk (⟨b.ps.map PgR.D, b.wear, true⟩ : BkD) := by
            have hb1 : BkOk b.D := dc6.ok.2.2 _ (by rw [← dc6.bs.D]; exact List.mem_map_of_mem (List.mem_of_getElem? hb))
            exact hb1
          have dc7 : DC W0 (w6.setCell ⟨g, k * 3 + 2, none⟩ (.bool true)) X (ds.set k ⟨b.ps.map PgR.D, b.wear, true⟩) (some ⟨g, 0, none⟩) vn vc (qs.set k ⟨b.a, b.cap, b.ps, b.wear, true⟩) := ⟨dc6.bs.bad dc6.n hb true, by rw [List.length_set]; exact dc6.n, ok_set dc6.ok hbd, dc6.x.other (B' := g) (by omega) _ _, fun hf => by
              rcases fp_put (S := X + 1) (q' := ⟨b.a, b.cap, b.ps, b.wear, true⟩) hb (fun i hi => .inl hi) X hf with h1 | h1
              · exact dc6.xf h1
              · omega, dc6.xn⟩
          have hbt7 : BytC (ds.set k ⟨b.ps.map PgR.D, b.wear, true⟩) := bytC_set hbt (by
            have hm : b.D ∈ ds := by rw [← dc6.bs.D]; exact List.mem_map_of_mem (List.mem_of_getElem? hb)
            exact fun p hp => hbt b.D hm p hp)
          have zr7 := ((Blk.svs zr5d (sv_grown gr6) (by simp; omega))).other (B' := g) (by omega) (k * 3 + 2) (.bool true)
          have hs7 := hs6.set (X := g) (i := k * 3 + 2) (v := .bool true) (by omega)
          have sv7 := sv_new (X := g) (i := k * 3 + 2) (v := .bool true) (sv5d.trans (sv_grown gr6)) (by have := HB0.out.size; omega)
          clear dc5d hs5d zr5d sv5d dc6 hs6 gr6 x5d v0 vf x6
          obtain ⟨W7, hW7⟩ : ∃ W, w6.setCell ⟨g, k * 3 + 2, none⟩ (.bool true) = W := ⟨_, rfl⟩
          rw [hW7] at dc7 zr7 hs7 sv7 ⊢
          clear hW7
          have fX := dc7.x.cell 0
          simp at fX
          have fH := zr7.cell 0
          have fF := zr7.frozen 0
          simp at fH
          have d0 := (zr7.set 0 (.slice (some ⟨g, 0, none⟩) vn vc)).cell 0
          simp at d0
          have HE : Hid (DrAb w gc n cap a zs (.returned (.agg #[.slice (some ⟨g, 0, none⟩) vn vc])) (W7.setCell ⟨H, 0, none⟩ (.slice (some ⟨g, 0, none⟩) vn vc))) := ⟨_, _, _, _, _, rfl, (dc7.bs.set_below (j := H) (by omega)).wider HB0.out.size, dc7.n, dc7.ok, hbt7, hs7.set (by omega), sv_new sv7 (by have := HH.out; omega)⟩
          clear dc5 zr5 sv5 hs5 x5
          go_wp2
          refine bodyPost_ret (v := .agg #[.slice (some ⟨g, 0, none⟩) vn vc]) (by simp [results, Try.f76, go_sem, d0]) rfl ?_
          rw [← HGP.out]
          exact HE.out)
      | false =>
        have fX := dc5.x.cell 0
        simp at fX
        have fH := zr5.cell 0
        have fF := zr5.frozen 0
        simp at fH
        have d0 := (zr5.set 0 (.slice (some ⟨g, 0, none⟩) vn vc)).cell 0
        simp at d0
        have HE : Hid (DrAb w gc n cap a zs (.returned (.agg #[.slice (some ⟨g, 0, none⟩) vn vc])) (w5.setCell ⟨H, 0, none⟩ (.slice (some ⟨g, 0, none⟩) vn vc))) := ⟨_, _, _, _, _, rfl, (dc5.bs.set_below (j := H) (by omega)).wider HB0.out.size, dc5.n, dc5.ok, hbt, hs5.set (by omega), sv_new sv5 (by have := HH.out; omega)⟩
        clear dc5 zr5 sv5 hs5 x5
        go_wp2
        refine bodyPost_ret (v := .agg #[.slice (some ⟨g, 0, none⟩) vn vc]) (by simp [results, Try.f76, go_sem, d0]) rfl ?_
        rw [← HGP.out]
        exact HE.out
end

section
open Go.RowKit
/-- No more blocks than a chip has; each has pages, which hold bytes and have room for them. -/
def PgV (vn : Nat) (qs : List BkR) : Prop := vn ≤ 24 ∧ ∀ q ∈ qs, 0 < q.ps.length ∧ ∀ p ∈ q.ps, Byt p.zs ∧ p.zs.length ≤ p.cap
theorem PgV.byt {vn : Nat} {qs : List BkR} (h : PgV vn qs) : BytC (qs.map BkR.D) := fun d hd p hp => by
  obtain ⟨q, hq, rfl⟩ := List.mem_map.1 hd
  obtain ⟨r, hr, rfl⟩ := List.mem_map.1 hp
  exact ((h.2 q hq).2 r hr).1
theorem PgV.caps {vn : Nat} {qs : List BkR} (h : PgV vn qs) : CapB qs := fun q hq p hp => ((h.2 q hq).2 p hp).2
theorem PgV.of {vn : Nat} {qs : List BkR} {ds : List BkD} (hv : vn ≤ 24) (hD : qs.map BkR.D = ds) (hok : ChOk ds) (hb : BytC ds) (hc : CapB qs) : PgV vn qs := ⟨hv, fun q hq => by
  have hm : q.D ∈ ds := by rw [← hD]; exact List.mem_map_of_mem hq
  have h8 := (hok.2.2 _ hm).1
  simp [BkR.D] at h8
  exact ⟨by omega, fun p hp => ⟨hb _ hm p.D (List.mem_map_of_mem hp), hc q hq p hp⟩⟩⟩
theorem q_set {ps : List PgR} {k : Nat} {x : PgR} (h : 0 < ps.length ∧ ∀ p ∈ ps, Byt p.zs ∧ p.zs.length ≤ p.cap) (hx : Byt x.zs ∧ x.zs.length ≤ x.cap) : 0 < (ps.set k x).length ∧ ∀ p ∈ ps.set k x, Byt p.zs ∧ p.zs.length ≤ p.cap :=
  ⟨by rw [List.length_set]; exact h.1, fun p hp => by
    rcases List.mem_or_eq_of_mem_set hp with h1 | h1
    · exact h.2 p h1
    · subst h1; exact hx⟩
theorem q_drop {ps : List PgR} {k : Nat} (h : 0 < ps.length ∧ ∀ p ∈ ps, Byt p.zs ∧ p.zs.length ≤ p.cap) (hl : 0 < (ps.drop k).length) : 0 < (ps.drop k).length ∧ ∀ p ∈ ps.drop k, Byt p.zs ∧ p.zs.length ≤ p.cap := ⟨hl, fun p hp => h.2 p (List.mem_of_mem_drop hp)⟩
theorem byt_1 : Byt [1] ∧ ([1] : List Int).length ≤ 1 := ⟨fun z hz => by simp at hz; omega, Nat.le_refl _⟩
/-- What l10Any answers. -/
def DyA2 (w : World) (gc n cap : Nat) (a : Option Addr) (zs : List Int) (e : Ending) (w' : World) : Prop := ∃ va vn vc qs, e = .returned (.agg #[.slice va vn vc]) ∧ ACR w.heap.size w' va vn qs ∧ PgV vn qs ∧ Src w' gc n cap a zs ∧ Sv [gc] w w'
/-- What is known behind the ways. -/
def DyC2 (w wx : World) (B H X gc n cap : Nat) (a : Option Addr) (zs : List Int) : Prop := ∃ va vn vc qs, Blk wx X 26 #[.slice va vn vc] ∧ ACR B wx va vn qs ∧ PgV vn qs ∧ Src wx gc n cap a zs ∧ Sv [gc] w wx ∧ Blk wx H 26 #[.slice none 0 0]
set_option maxRecDepth 100000 in
set_option maxHeartbeats 16000000 in
theorem l10AnyS2 (gc n cap : Nat) (a : Option Addr) (zs : List Int) (w : World) (h : Src w gc n cap a zs) :
    Calls Try.prog 58 #[.pointer (some ⟨gc, 0, none⟩)] w (DyA2 w gc n cap a zs) := by
  have hgc := h.cur.lt
  have B0 : Below w.heap.size w (w.alloc (.cells #[.slice none 0 0] 26)) := (Below.refl _ w).alloc (Nat.le_refl _) _
  have z0 := Blk.new w 26 #[.slice none 0 0]
  have h0 := h.keep B0
  generalize hGP : DyA2 w gc n cap a zs = P
  have HGP : Hid _ := hGP
  clear hGP h
  obtain ⟨H, hH⟩ : ∃ H, w.heap.size = H := ⟨_, rfl⟩
  have HH : Hid _ := hH
  rw [hH] at z0
  go_enter Try.func58, Try.ntmps58
  go_wp2_with fail
  obtain ⟨W0, hW0⟩ : ∃ W, w.alloc (.cells #[.slice none 0 0] 26) = W := ⟨_, rfl⟩
  rw [hW0] at B0 z0 h0 ⊢
  try rw [hH]
  clear hW0
  have hgH : gc < H := by omega
  have HB0 : Hid (Below w.heap.size w W0) := B0
  have hW0s : H < W0.heap.size := z0.lt
  clear B0 hH
  refine (l10DrawB gc n cap a zs W0 h0).mono ?_
  rintro e w2 ⟨va, vn, vc, qs, ds, rfl, hq, hl, hok, hbt, hs2, sv2⟩
  have z2 := Blk.svs z0 sv2 (by simp; omega)
  have hdl : ds.length = vn := by rw [← hq.len, hl]
  have hvn : 3 ≤ vn ∧ vn ≤ 24 := by have := hok.1; have := hok.2.1; omega
  obtain ⟨g, rfl⟩ : ∃ g, va = some ⟨g, 0, none⟩ := by
    rcases (show OwnE bkE 39 w2 (.slice va vn vc) qs.length qs from hq.own.1).cases with ⟨_, _, h0⟩ | ⟨g, c, h0, _⟩
    · rw [h0] at hl
      simp at hl
      omega
    · simp only [Value.slice.injEq] at h0
      exact ⟨g, h0.1⟩
  have b3 : Below w2.heap.size w2 (w2.alloc (.cells #[.slice (some ⟨g, 0, none⟩) vn vc] 26)) := (Below.refl _ _).alloc (Nat.le_refl _) _
  have zX := Blk.new w2 26 #[.slice (some ⟨g, 0, none⟩) vn vc]
  have hXf : w2.heap.size ∉ fpBs (.slice (some ⟨g, 0, none⟩) vn vc) qs := fun hf => by have := hq.own.lt _ hf; omega
  obtain ⟨X, hX⟩ : ∃ X, w2.heap.size = X := ⟨_, rfl⟩
  have dc3 : DC W0 (w2.alloc (.cells #[.slice (some ⟨g, 0, none⟩) vn vc] 26)) X ds (some ⟨g, 0, none⟩) vn vc qs := ⟨hq.keep b3, hl, hok, by rw [← hX]; exact zX, by rw [← hX]; exact hXf, by have := sv2.size; omega⟩
  have h3 := hs2.keep b3
  have z3 := z2.keep b3
  have sv3 : Sv [gc] w (w2.alloc (.cells #[.slice (some ⟨g, 0, none⟩) vn vc] 26)) := ((Below.sv HB0.out _).trans sv2).trans (Below.sv b3 _)
  have hXH : H < X := by have := sv2.size; omega
  clear zX hq b3 z0 z2 h0 hs2 sv2 hXf hok
  go_wp2_with fail
  obtain ⟨W3, hW3⟩ : ∃ W, w2.alloc (.cells #[.slice (some ⟨g, 0, none⟩) vn vc] 26) = W := ⟨_, rfl⟩
  rw [hW3] at dc3 h3 z3 sv3 ⊢
  try rw [hX]
  clear hW3 hX
  refine (below_step gc n cap a zs vn W3 h3 (by omega) (by omega)).mono ?_
  rintro e w4 ⟨k, rfl, hk, h4, gr4⟩
  have hki : (k : Int) < (vn : Int) := by omega
  have dc4 := dc3.svs (sv_grown gr4) (by omega)
  have z4 := Blk.svs z3 (sv_grown gr4) (by simp; omega)
  have sv4 := sv3.trans (sv_grown gr4)
  clear dc3 z3 sv3 h3 gr4
  go_wp2_with fail
  refine (below_step gc n cap a zs 16 w4 h4 (by omega) (by omega)).mono ?_
  rintro e w5 ⟨y, rfl, hy, h5, gr5⟩
  have dc5 := dc4.svs (sv_grown gr5) (by omega)
  have z5 := Blk.svs z4 (sv_grown gr5) (by simp; omega)
  have sv5 := sv4.trans (sv_grown gr5)
  clear dc4 z4 sv4 h4 gr5
  obtain ⟨b, hb⟩ : ∃ b, qs[k]? = some b := ⟨_, List.getElem?_eq_getElem (by omega)⟩
  have hbok : BkOk b.D := dc5.ok.2.2 _ (by rw [← dc5.bs.D]; exact List.mem_map_of_mem (List.mem_of_getElem? hb))
  have hb8 : b.ps.length = 8 := by have := hbok.1; simpa [BkR.D] using this
  have HPN : Hid (∀ q ∈ qs, 0 < q.ps.length ∧ ∀ p ∈ q.ps, Byt p.zs ∧ p.zs.length ≤ p.cap) := (PgV.of (vn := vn) (by omega) dc5.bs.D dc5.ok hbt dc5.bs.caps).2
  have htot := ok_tot2 dc5.ok
  have hHB : H < W0.heap.size := hW0s
  have hHw := HH.out
  have hbD : ds[k]? = some b.D := by rw [← dc5.bs.D, List.getElem?_map, hb]; rfl
  obtain ⟨Pb, hPb⟩ := pg_some dc5.bs hb (by omega)
  have hOw : OwnE bkE 39 w5 (.slice (some ⟨g, 0, none⟩) vn vc) vn qs := by have := dc5.bs.own.1; rw [dc5.n] at this; exact this
  have v0 : w5.cell? ⟨g, k * 3, none⟩ = some (.slice (some ⟨Pb, 0, none⟩) 8 b.cap) := by rw [← hPb, ← hb8]; exact hOw.cell k 0 b hb (by decide)
  have hvc : vn ≤ vc := ownE_cap hOw
  have hPf : Pb ∈ fpBs (.slice (some ⟨g, 0, none⟩) vn vc) qs := fpBs_bk (List.mem_of_getElem? hb) (fpPs_row (by unfold BkR.v; rw [hPb]; rfl))
  have hPX : X ≠ Pb := fun e => dc5.xf (e ▸ hPf)
  have hgX : X ≠ g := fun e => dc5.xf (e ▸ fpBs_row rfl)
  have hPn := dc5.bs.new Pb hPf
  have hgn := dc5.bs.new g (fpBs_row rfl)
  obtain ⟨p7, hp7⟩ : ∃ p, b.ps[7]? = some p := ⟨_, List.getElem?_eq_getElem (by omega)⟩
  have hPs := pg_row dc5.bs hb hPb
  have hb8c : 8 ≤ b.cap := by have := ownE_cap hPs; omega
  have hgH2 : w.heap.size ≤ H := by omega
  have x5 := dc5.x.cell 0
  simp at x5
  go_upto_block 0 with fail
  go_cut [14] (fun _ wx => DyC2 w wx W0.heap.size H X gc n cap a zs)
  case first =>
    have hyc : y = 0 ∨ y = 1 ∨ y = 2 ∨ y = 3 ∨ y = 4 ∨ 5 ≤ y := by omega
    rcases hyc with rfl | rfl | rfl | rfl | rfl | hy5
    · -- the wear
      have hD5 : Below w5.heap.size w5 (w5.alloc (.cells #[.int .i64 (-1), .int .i64 100000, .int .i64 100001] 3)).drew := ((Below.refl _ w5).alloc (Nat.le_refl _) _).drew
      have dS := dc5.keep hD5
      have hS := h5.keep hD5
      have zS := z5.keep hD5
      have svS := sv5.trans (Below.sv hD5 _)
      have xS := dS.x.cell 0
      simp at xS
      have hlt5 := h5.cur.lt
      have hcI := int_step gc n cap a zs w5.heap.size 3 [-1, 100000, 100001] _ hS rfl (by omega) (by omega) (by omega) (fun j hj => ints_cells w5 [-1, 100000, 100001] 3 j hj)
      have hcI' := int_step gc n cap a zs w5.heap.size 3 [-1, 100000, 100001] _ (h5.alloc (.cells #[.int .i64 (-1), .int .i64 100000, .int .i64 100001] 3)) rfl (by omega) (by omega) (by omega) (fun j hj => ints_cells w5 [-1, 100000, 100001] 3 j hj)
      go_upto_region 5 with fail
      go_region_law (first
        | (go_simp; go_at_call 21; (with_reducible refine hcI.mono ?_); rintro e w6 ⟨k5, rfl, hk5, s6, g6⟩; obtain ⟨iq, hiq⟩ : ∃ z, ([-1, 100000, 100001] : List Int).getD k5 0 = z := ⟨_, rfl⟩; rw [hiq]; clear hiq; have d6 := dS.svs (sv_grown g6) (by omega); have z6 := Blk.svs zS (sv_grown g6) (by simp; omega); have sv6 := svS.trans (sv_grown g6); have x6 := d6.x.cell 0; (simp at x6); have hO6 : OwnE bkE 39 w6 (.slice (some ⟨g, 0, none⟩) vn vc) vn qs := (by have := d6.bs.own.1; rw [d6.n] at this; exact this); have q6 := hO6.cell k 1 b hb (by decide); have qf6 := hO6.frozen (k * 3 + 1); (simp [bkE] at q6); dsimp only)
        | fail)
      all_goals
        have bs7 := d6.bs.wear d6.n hb iq
        have a7 := bs7.acr (by rw [List.length_set]; exact d6.n) (Nat.le_trans (totB_set ds k b.D _ hbD (Nat.le_refl _)) (by omega))
        have x7 := d6.x.other (B' := g) (Ne.symm hgX |> fun h e => h e.symm) (k * 3 + 1) (.int .i64 iq)
        have z7 := z6.other (B' := g) (by omega) (k * 3 + 1) (.int .i64 iq)
        have h7 := s6.set (X := g) (i := k * 3 + 1) (v := .int .i64 iq) (by omega)
        have sv7 := sv_new (X := g) (i := k * 3 + 1) (v := .int .i64 iq) sv6 (by omega)
        have HE : Hid (DyC2 w (w6.setCell ⟨g, k * 3 + 1, none⟩ (.int .i64 iq)) W0.heap.size H X gc n cap a zs) := ⟨_, _, _, _, x7, a7, ⟨by omega, by
          intro q hq
          first
            | exact HPN.out q hq
            | exact HPN.out q (List.mem_of_mem_take hq)
            | (rcases List.mem_or_eq_of_mem_set hq with h | h
               · exact HPN.out q h
               · subst h; first | exact HPN.out b (List.mem_of_getElem? hb) | exact q_set (HPN.out b (List.mem_of_getElem? hb)) ((HPN.out b (List.mem_of_getElem? hb)).2 p7 (List.mem_of_getElem? hp7)) | exact q_set (HPN.out b (List.mem_of_getElem? hb)) byt_1 | exact q_drop (HPN.out b (List.mem_of_getElem? hb)) (by omega))⟩, h7, sv7, z7⟩
        clear bs7 a7 x7 z7 h7 sv7
        go_wp2_with fail
        go_meet
        exact HE.out
    · -- a page that says that it is written
      have q0 : w5.cell? ⟨Pb, 14, none⟩ = some (.bool p7.used) := hPs.cell 7 0 p7 hp7 (by decide)
      have qf : w5.frozen? ⟨Pb, 14, none⟩ = false := hPs.frozen 14
      have bs7 := dc5.bs.used dc5.n hb hPb hp7
      have a7 := bs7.acr (by rw [List.length_set]; exact dc5.n) (Nat.le_trans (totB_set ds k b.D _ hbD (totP_same (p := p7.D) (by rw [List.getElem?_map, hp7]; rfl) (Nat.le_refl _))) (by omega))
      have x7 := dc5.x.other (B' := Pb) hPX 14 (.bool true)
      have z7 := z5.other (B' := Pb) (by omega) 14 (.bool true)
      have h7 := h5.set (X := Pb) (i := 14) (v := .bool true) (by omega)
      have sv7 := sv_new (X := Pb) (i := 14) (v := .bool true) sv5 (by omega)
      have HE : Hid (DyC2 w (w5.setCell ⟨Pb, 14, none⟩ (.bool true)) W0.heap.size H X gc n cap a zs) := ⟨_, _, _, _, x7, a7, ⟨by omega, by
          intro q hq
          first
            | exact HPN.out q hq
            | exact HPN.out q (List.mem_of_mem_take hq)
            | (rcases List.mem_or_eq_of_mem_set hq with h | h
               · exact HPN.out q h
               · subst h; first | exact HPN.out b (List.mem_of_getElem? hb) | exact q_set (HPN.out b (List.mem_of_getElem? hb)) ((HPN.out b (List.mem_of_getElem? hb)).2 p7 (List.mem_of_getElem? hp7)) | exact q_set (HPN.out b (List.mem_of_getElem? hb)) byt_1 | exact q_drop (HPN.out b (List.mem_of_getElem? hb)) (by omega))⟩, h7, sv7, z7⟩
      clear dc5 z5 sv5 h5 bs7 a7 x7 z7 h7 sv7
      go_wp2_with fail
      go_meet
      exact HE.out
    · -- a page of other bytes
      have b6 : Below w5.heap.size w5 (w5.alloc (.cells #[.int .u8 1] 5)) := (Below.refl _ w5).alloc (Nat.le_refl _) _
      have q0 : (w5.alloc (.cells #[.int .u8 1] 5)).cell? ⟨Pb, 15, none⟩ = some p7.v := (OwnE.keep hPs b6).cell 7 1 p7 hp7 (by decide)
      have qf : (w5.alloc (.cells #[.int .u8 1] 5)).frozen? ⟨Pb, 15, none⟩ = false := (OwnE.keep hPs b6).frozen 15
      have bs7 := dc5.bs.bytes dc5.n hb hPb hp7 b6 rfl (rowB_one w5 1) (Nat.le_refl _) (fun j hj => by simp [Value.ownBlock] at hj; omega)
      have htp : totP b.D.ps ≤ totB ds := totP_leB (List.mem_of_getElem? hbD)
      have a7 := bs7.acr (by rw [List.length_set]; exact dc5.n) (by
        have h1 := totB_setY ds k ⟨(b.ps.map PgR.D).set 7 ⟨p7.used, [1]⟩, b.wear, b.bad⟩
        have h2 := totP_setY (b.ps.map PgR.D) 7 ⟨p7.used, [1]⟩
        have h3 : totP (b.ps.map PgR.D) ≤ totB ds := htp
        have h4 : ([1] : List Int).length = 1 := rfl
        dsimp only at h1 h2
        omega)
      have x7 := (dc5.x.keep b6).other (B' := Pb) hPX 15 (.slice (some ⟨w5.heap.size, 0, none⟩) 1 1)
      have z7 := (z5.keep b6).other (B' := Pb) (by omega) 15 (.slice (some ⟨w5.heap.size, 0, none⟩) 1 1)
      have h7 := (h5.keep b6).set (X := Pb) (i := 15) (v := .slice (some ⟨w5.heap.size, 0, none⟩) 1 1) (by omega)
      have sv7 := sv_new (X := Pb) (i := 15) (v := .slice (some ⟨w5.heap.size, 0, none⟩) 1 1) (sv5.trans (Below.sv b6 _)) (by omega)
      have HE : Hid (DyC2 w ((w5.alloc (.cells #[.int .u8 1] 5)).setCell ⟨Pb, 15, none⟩ (.slice (some ⟨w5.heap.size, 0, none⟩) 1 1)) W0.heap.size H X gc n cap a zs) := ⟨_, _, _, _, x7, a7, ⟨by omega, by
          intro q hq
          first
            | exact HPN.out q hq
            | exact HPN.out q (List.mem_of_mem_take hq)
            | (rcases List.mem_or_eq_of_mem_set hq with h | h
               · exact HPN.out q h
               · subst h; first | exact HPN.out b (List.mem_of_getElem? hb) | exact q_set (HPN.out b (List.mem_of_getElem? hb)) ((HPN.out b (List.mem_of_getElem? hb)).2 p7 (List.mem_of_getElem? hp7)) | exact q_set (HPN.out b (List.mem_of_getElem? hb)) byt_1 | exact q_drop (HPN.out b (List.mem_of_getElem? hb)) (by omega))⟩, h7, sv7, z7⟩
      clear dc5 z5 sv5 h5 bs7 a7 x7 z7 h7 sv7 b6
      go_wp2_with fail
      go_meet
      exact HE.out
    · -- a page less
      have qf := hOw.frozen (k * 3)
      have hd7 : (b.ps.drop 1).length = 7 := by rw [List.length_drop]; omega
      have D0 := (Below.refl w5.heap.size w5).drew
      have hcut := (dc5.bs.keep D0).cut (cp := b.cap - 1) dc5.n hb hPb (by omega)
      rw [hd7] at hcut
      have x7 := (dc5.x.keep D0).other (B' := g) hgX (k * 3) (.slice (some ⟨Pb, 2, none⟩) 7 (b.cap - 1))
      have z7 := (z5.keep D0).other (B' := g) (by omega) (k * 3) (.slice (some ⟨Pb, 2, none⟩) 7 (b.cap - 1))
      have h7 := (h5.keep D0).set (X := g) (i := k * 3) (v := .slice (some ⟨Pb, 2, none⟩) 7 (b.cap - 1)) (by omega)
      have sv7 := sv_new (X := g) (i := k * 3) (v := .slice (some ⟨Pb, 2, none⟩) 7 (b.cap - 1)) (sv5.trans (Below.sv D0 _)) (by omega)
      have xd : w5.drew.cell? ⟨X, 0, none⟩ = some (.slice (some ⟨g, 0, none⟩) vn vc) := x5
      have vd : w5.drew.cell? ⟨g, k * 3, none⟩ = some (.slice (some ⟨Pb, 0, none⟩) 8 b.cap) := v0
      have HE : Hid (DyC2 w (w5.drew.setCell ⟨g, k * 3, none⟩ (.slice (some ⟨Pb, 2, none⟩) 7 (b.cap - 1))) W0.heap.size H X gc n cap a zs) := ⟨_, _, _, _, x7, hcut, ⟨by omega, by
          intro q hq
          first
            | exact HPN.out q hq
            | exact HPN.out q (List.mem_of_mem_take hq)
            | (rcases List.mem_or_eq_of_mem_set hq with h | h
               · exact HPN.out q h
               · subst h; first | exact HPN.out b (List.mem_of_getElem? hb) | exact q_set (HPN.out b (List.mem_of_getElem? hb)) ((HPN.out b (List.mem_of_getElem? hb)).2 p7 (List.mem_of_getElem? hp7)) | exact q_set (HPN.out b (List.mem_of_getElem? hb)) byt_1 | exact q_drop (HPN.out b (List.mem_of_getElem? hb)) (by omega))⟩, h7, sv7, z7⟩
      clear dc5 z5 sv5 h5 x7 z7 h7 sv7 hcut D0
      go_upto_region 11 with fail
      go_region_with fail
      all_goals (go_wp2_with fail; go_meet; exact HE.out)
    · -- two blocks alone
      have c0 := dc5.x.cell 0
      have f0 := dc5.x.frozen 0
      simp at c0
      have hv2 : 2 ≤ vc := by omega
      have x7 := dc5.x.set 0 (.slice (some ⟨g, 0, none⟩) 2 vc)
      have z7 := z5.other (B' := X) (by omega) 0 (.slice (some ⟨g, 0, none⟩) 2 vc)
      have bsF := dc5.bs.svs (sv_at (F := [X]) (X := X) w5 (i := 0) (v := .slice (some ⟨g, 0, none⟩) 2 vc) (by simp)) (fun j hj hf => by
        simp at hf
        subst hf
        exact dc5.xf hj)
      have a7 := (bsF.acr dc5.n (by omega)).take 2 (by omega)
      have h7 := h5.set (X := X) (i := 0) (v := .slice (some ⟨g, 0, none⟩) 2 vc) (by omega)
      have sv7 := sv_new (X := X) (i := 0) (v := .slice (some ⟨g, 0, none⟩) 2 vc) sv5 (by omega)
      have HE : Hid (DyC2 w (w5.setCell ⟨X, 0, none⟩ (.slice (some ⟨g, 0, none⟩) 2 vc)) W0.heap.size H X gc n cap a zs) := ⟨_, _, _, _, x7, a7, ⟨by omega, by
          intro q hq
          first
            | exact HPN.out q hq
            | exact HPN.out q (List.mem_of_mem_take hq)
            | (rcases List.mem_or_eq_of_mem_set hq with h | h
               · exact HPN.out q h
               · subst h; first | exact HPN.out b (List.mem_of_getElem? hb) | exact q_set (HPN.out b (List.mem_of_getElem? hb)) ((HPN.out b (List.mem_of_getElem? hb)).2 p7 (List.mem_of_getElem? hp7)) | exact q_set (HPN.out b (List.mem_of_getElem? hb)) byt_1 | exact q_drop (HPN.out b (List.mem_of_getElem? hb)) (by omega))⟩, h7, sv7, z7⟩
      clear dc5 z5 sv5 h5 x7 z7 bsF a7 h7 sv7
      go_wp2_with fail
      go_meet
      exact HE.out
    · have hy0 : ((y : Int) == 0) = false := by simp; omega
      have hy1 : ((y : Int) == 1) = false := by simp; omega
      have hy2 : ((y : Int) == 2) = false := by simp; omega
      have hy3 : ((y : Int) == 3) = false := by simp; omega
      have hy4 : ((y : Int) == 4) = false := by simp; omega
      have a7 := dc5.bs.acr dc5.n (by omega)
      have HE : Hid (DyC2 w w5 W0.heap.size H X gc n cap a zs) := ⟨_, _, _, _, dc5.x, a7, ⟨by omega, by
          intro q hq
          first
            | exact HPN.out q hq
            | exact HPN.out q (List.mem_of_mem_take hq)
            | (rcases List.mem_or_eq_of_mem_set hq with h | h
               · exact HPN.out q h
               · subst h; first | exact HPN.out b (List.mem_of_getElem? hb) | exact q_set (HPN.out b (List.mem_of_getElem? hb)) ((HPN.out b (List.mem_of_getElem? hb)).2 p7 (List.mem_of_getElem? hp7)) | exact q_set (HPN.out b (List.mem_of_getElem? hb)) byt_1 | exact q_drop (HPN.out b (List.mem_of_getElem? hb)) (by omega))⟩, h5, sv5, z5⟩
      clear dc5 z5 sv5 h5 a7
      go_wp2_with fail
      go_meet
      exact HE.out
  case rest =>
  obtain ⟨va', vn', vc', qs', xc, ac, hl', hs6, sv6, z6⟩ := hcut
  obtain ⟨w6, hwc⟩ : ∃ W, W = wc := ⟨_, rfl⟩
  subst hwc
  have fX := xc.cell 0
  simp at fX
  have fH := z6.cell 0
  have fF := z6.frozen 0
  simp at fH
  have d0 := (z6.set 0 (.slice va' vn' vc')).cell 0
  simp at d0
  have HE : Hid (DyA2 w gc n cap a zs (.returned (.agg #[.slice va' vn' vc'])) (w6.setCell ⟨H, 0, none⟩ (.slice va' vn' vc'))) := ⟨_, _, _, _, rfl, (ac.far hHB _).less (by omega), hl', hs6.set (by omega), sv_new sv6 (by omega)⟩
  clear dc5 z5 sv5 h5 x5 xc ac hs6 sv6 z6 hPs hOw v0
  go_wp2
  refine bodyPost_ret (v := .agg #[.slice va' vn' vc']) (by simp [results, Try.f58, go_sem, d0]) rfl ?_
  rw [← HGP.out]
  exact HE.out
end
end Go.Proofs.Ytpejfkgbfdkdnaa
