/-
  Joined: DvS, DrCh.
-/
import Derived.Test.YtcohppfocfepdaaDoorJ23P
import Derived.Test.YtcohppfocfepdaaDoorJ25P
import Derived.Test.YtcohppfocfepdaaDoorJ26P
import Derived.Defers
import Derived.Recover
namespace Go.Proofs.YtcohppfocfepdaaDoor
section
open Go.RowKit
/-- What a changed block takes. -/
theorem fp_put {v : Value} {qs : List BkR} {k S : Nat} {q q' : BkR} (hk : qs[k]? = some q) (h : ∀ g ∈ fpPs q'.v q'.ps, g ∈ fpPs q.v q.ps ∨ S ≤ g) : ∀ g ∈ fpBs v (qs.set k q'), g ∈ fpBs v qs ∨ S ≤ g := fun g hg => by
  rcases List.mem_append.1 hg with h1 | h1
  · exact .inl (List.mem_append_left _ h1)
  · obtain ⟨y, hy, hyf⟩ := List.mem_flatMap.1 h1
    rcases mem_set hy with rfl | ⟨i, _, hyi⟩
    · rcases h g hyf with h2 | h2
      · exact .inl (fpBs_bk (List.mem_of_getElem? hk) h2)
      · exact .inr h2
    · exact .inl (fpBs_bk (List.mem_of_getElem? hyi) hyf)
/-- The block k turned bad. -/
theorem NewBs.bad {W : World} {B g n c k : Nat} {ds : List BkD} {bs : List BkR} {b : BkR} (h : NewBs W B (.slice (some ⟨g, 0, none⟩) n c) ds bs) (hn : bs.length = n) (hb : bs[k]? = some b) (y : Bool) :
    NewBs (W.setCell ⟨g, k * 3 + 2, none⟩ (.bool y)) B (.slice (some ⟨g, 0, none⟩) n c) (ds.set k ⟨b.ps.map PgR.D, b.wear, y⟩) (bs.set k ⟨b.a, b.cap, b.ps, b.wear, y⟩) := by
  have hr := h.row
  have hset : ∀ j, j ≠ g → (W.setCell ⟨g, k * 3 + 2, none⟩ (.bool y)).heap[j]? = W.heap[j]? := fun j hj => Below.heap_setCell _ _ _ _ hj
  have hown : OwnE bkE 34 W (.slice (some ⟨g, 0, none⟩) n c) n bs := by have := h.own.1; rw [hn] at this; exact this
  have s := hown.set k 2 b ⟨b.a, b.cap, b.ps, b.wear, y⟩ (.bool y) hb (by decide) rfl
  have hfx : ∀ j ∈ bkK.fps bs, j ≠ g := fun j hj e => by subst e; exact hr.1 hj
  have hbm : b ∈ bs := List.mem_of_getElem? hb
  have hin := h.inn.put (w' := W.setCell ⟨g, k * 3 + 2, none⟩ (.bool y)) (S := W.heap.size) (q := (⟨b.a, b.cap, b.ps, b.wear, y⟩ : BkR)) hb (fun j hj => h.inn.lt j hj) (by have := h.own.lt g (fpBs_row rfl); have := hr.2; omega) (by
      show OwnPs _ b.v b.ps
      exact (h.own.2 b hbm).block fun j hj => hset j (hfx j (List.mem_flatMap.2 ⟨b, hbm, hj⟩))) (fun j hj => .inl hj) (show (fpPs b.v b.ps).Nodup from flat_nodup' (f := bkK.fp) h.inn.nd hbm) (fun j hj _ => hset j (hfx j hj))
  refine hin.newBs (by rw [List.length_set, hn]; exact s) (Nat.le_refl _) (fun j hj => ?_)
  simp [Value.ownBlock] at hj
  subst hj
  refine ⟨hr.2, fun hf => ?_⟩
  obtain ⟨x, hx, hxf⟩ := List.mem_flatMap.1 hf
  rcases mem_set hx with rfl | ⟨j, hj, hxj⟩
  · exact hr.1 (List.mem_flatMap.2 ⟨b, hbm, hxf⟩)
  · exact hr.1 (List.mem_flatMap.2 ⟨x, List.mem_of_getElem? hxj, hxf⟩)
end

section
open Go.RowKit
/-- A drawn chip in its box X. -/
structure DC (w0 wr : World) (X : Nat) (ds : List BkD) (va : Option Addr) (vn vc : Nat) (qs : List BkR) : Prop where
  bs : NewBs wr w0.heap.size (.slice va vn vc) ds qs
  n : qs.length = vn
  ok : ChOk ds
  x : Blk wr X 26 #[.slice va vn vc]
  xf : X ∉ fpBs (.slice va vn vc) qs
  xn : w0.heap.size ≤ X
theorem DC.svs {w0 wr w' : World} {X g : Nat} {ds : List BkD} {va : Option Addr} {vn vc : Nat} {qs : List BkR} (h : DC w0 wr X ds va vn vc qs) (hs : Sv [g] wr w') (hg : g < w0.heap.size) : DC w0 w' X ds va vn vc qs :=
  ⟨h.bs.svs hs (fun j hj hf => by have := h.bs.new j hj; simp at hf; omega), h.n, h.ok, Blk.svs h.x hs (by have := h.xn; simp; omega), h.xf, h.xn⟩
theorem DC.keep {w0 wr w' : World} {X : Nat} {ds : List BkD} {va : Option Addr} {vn vc : Nat} {qs : List BkR} (h : DC w0 wr X ds va vn vc qs) (hb : Below wr.heap.size wr w') : DC w0 w' X ds va vn vc qs := ⟨h.bs.keep hb, h.n, h.ok, h.x.keep hb, h.xf, h.xn⟩
theorem DC.len {w0 wr : World} {X : Nat} {ds : List BkD} {va : Option Addr} {vn vc : Nat} {qs : List BkR} (h : DC w0 wr X ds va vn vc qs) : ds.length = vn := by rw [← h.bs.len, h.n]
theorem DC.cr {w0 wr : World} {X : Nat} {ds : List BkD} {va : Option Addr} {vn vc : Nat} {qs : List BkR} (h : DC w0 wr X ds va vn vc qs) : CR wr va vn qs := ⟨h.n, by rw [h.bs.D]; exact ok_tot h.ok, h.bs.rd⟩
theorem DC.some {w0 wr : World} {X : Nat} {ds : List BkD} {va : Option Addr} {vn vc : Nat} {qs : List BkR} (h : DC w0 wr X ds va vn vc qs) : ∃ g, va = .some ⟨g, 0, none⟩ := by
  rcases (show OwnE bkE 34 wr (.slice va vn vc) qs.length qs from h.bs.own.1).cases with ⟨_, _, h0⟩ | ⟨g, c, h0, _⟩
  · have := h.len
    have h1 := h.ok.1
    have h2 := h.n
    rw [h0] at h2
    simp at h2
    omega
  · simp only [Value.slice.injEq] at h0
    exact ⟨g, h0.1⟩
/-- The cells of the block k. -/
theorem DC.bk {w0 wr : World} {X g : Nat} {ds : List BkD} {vn vc : Nat} {qs : List BkR} (h : DC w0 wr X ds (Option.some ⟨g, 0, none⟩) vn vc qs) (k : Nat) (hk : k < vn) : ∃ b, qs[k]? = Option.some b ∧ wr.cell? ⟨g, k * 3 + 2, none⟩ = Option.some (.bool b.bad) ∧ wr.frozen? ⟨g, k * 3 + 2, none⟩ = false ∧ wr.cell? ⟨X, 0, none⟩ = Option.some (.slice (Option.some ⟨g, 0, none⟩) vn vc) := by
  have hOw : OwnE bkE 34 wr (.slice (Option.some ⟨g, 0, none⟩) vn vc) vn qs := by
    have := h.bs.own.1
    rw [h.n] at this
    exact this
  have x0 := h.x.cell 0
  simp at x0
  exact ⟨_, List.getElem?_eq_getElem (by have := h.n; omega), hOw.cell k 2 _ (List.getElem?_eq_getElem (by have := h.n; omega)) (by decide), hOw.frozen (k * 3 + 2), x0⟩
/-- Another chip was stored in its place. -/
theorem DC.put {w0 wr w' : World} {X : Nat} {ds ds' : List BkD} {va va' : Option Addr} {vn vc vn' vc' : Nat} {qs qs' : List BkR} (h : DC w0 wr X ds va vn vc qs) (hb : Below wr.heap.size wr w') (hq : NewBs w' wr.heap.size (.slice va' vn' vc') ds' qs') (hn : qs'.length = vn') (hok : ChOk ds') : DC w0 (w'.setCell ⟨X, 0, none⟩ (.slice va' vn' vc')) X ds' va' vn' vc' qs' := by
  have hX := h.x.lt
  have hnX : X ∉ fpBs (.slice va' vn' vc') qs' := fun hf => by have := hq.new X hf; omega
  have hw : w0.heap.size ≤ wr.heap.size := by have := h.xn; omega
  exact ⟨(hq.set_below hX).wider hw, hn, hok, by have := (h.x.keep hb).set 0 (.slice va' vn' vc'); simpa using this, hnX, h.xn⟩
theorem sv_new {F : List Nat} {w W : World} {X i : Nat} {v : Value} (h : Sv F w W) (hX : w.heap.size ≤ X) : Sv F w (W.setCell ⟨X, i, none⟩ v) :=
  ⟨h.os, h.tape, h.output, by rw [size_setC]; exact h.size, fun k hk hn => (Below.heap_setCell _ _ _ _ (by show k ≠ X; omega)).trans (h.block k hk hn)⟩
theorem Own.len2 {w : World} {g m c : Nat} {ys : List Int} (h : Own w g m c ys) : ys.length = m := OwnV.len h
/-- What l10Draw answers. -/
def DrA (w : World) (gc n cap : Nat) (a : Option Addr) (zs : List Int) (e : Ending) (w' : World) : Prop := ∃ va vn vc qs ds, e = .returned (.agg #[.slice va vn vc]) ∧ NewBs w' w.heap.size (.slice va vn vc) ds qs ∧ qs.length = vn ∧ ChOk ds ∧ Src w' gc n cap a zs ∧ Sv [gc] w w'
theorem sv_grown {w w' : World} {gc : Nat} (h : w.grownBy w' (some gc)) : Sv [gc] w w' := Sv.gr h (fun g hg => by simp at hg; simp [hg])
theorem Src.set {w : World} {gc n cap X i : Nat} {a : Option Addr} {zs : List Int} {v : Value} (h : Src w gc n cap a zs) (hX : gc < X) : Src (w.setCell ⟨X, i, none⟩ v) gc n cap a zs := h.other (gr_setC w X i v) hX
set_option maxRecDepth 100000 in
set_option maxHeartbeats 16000000 in
theorem l10DrawS (gc n cap : Nat) (a : Option Addr) (zs : List Int) (w : World) (h : Src w gc n cap a zs) :
    Calls Tryd.prog 38 #[.pointer (some ⟨gc, 0, none⟩)] w (DrA w gc n cap a zs) := by
  have hgc := h.cur.lt
  have B0 : Below w.heap.size w (w.alloc (.cells #[.slice none 0 0] 26)) := (Below.refl _ w).alloc (Nat.le_refl _) _
  have z0 := Blk.new w 26 #[.slice none 0 0]
  have h0 := h.keep B0
  generalize hGP : DrA w gc n cap a zs = P
  have HGP : Hid _ := hGP
  clear hGP h
  obtain ⟨H, hH⟩ : ∃ H, w.heap.size = H := ⟨_, rfl⟩
  have HH : Hid _ := hH
  rw [hH] at z0
  go_enter Tryd.func38, Tryd.ntmps38
  go_wp2_with fail
  obtain ⟨W0, hW0⟩ : ∃ W, w.alloc (.cells #[.slice none 0 0] 26) = W := ⟨_, rfl⟩
  rw [hW0] at B0 z0 h0 ⊢
  try rw [hH]
  clear hW0
  have hgH : gc < H := by omega
  have HB0 : Hid (Below w.heap.size w W0) := B0
  have hW0s : H < W0.heap.size := z0.lt
  clear B0 hH
  refine (below_step gc n cap a zs 3 W0 h0 (by omega) (by omega)).mono ?_
  rintro e w1 ⟨y, rfl, hy, h1, gr1⟩
  have sv1 := sv_grown gr1
  have z1 := Blk.svs z0 sv1 (by simp; omega)
  clear h0 z0 gr1
  have hyi : (y : Int) < 3 := by omega
  go_wp2_with fail
  refine (chipNewS _ w1).mono ?_
  rintro e w2 ⟨va, vn, vc, qs, rfl, hq, hql, b2⟩
  have h2 := h1.keep b2
  have z2 := z1.keep b2
  have hok : ChOk (newD (3 + (y : Int))) := ok_new (by omega)
  have b3 : Below w2.heap.size w2 (w2.alloc (.cells #[.slice va vn vc] 26)) := (Below.refl _ _).alloc (Nat.le_refl _) _
  have zX := Blk.new w2 26 #[.slice va vn vc]
  have hW1 : w1.heap.size ≤ w2.heap.size := b2.size
  have hXf : w2.heap.size ∉ fpBs (.slice va vn vc) qs := fun hf => by have := hq.own.lt _ hf; omega
  obtain ⟨X, hX⟩ : ∃ X, w2.heap.size = X := ⟨_, rfl⟩
  have hs1 := sv1.size
  have dc3 : DC W0 (w2.alloc (.cells #[.slice va vn vc] 26)) X (newD (3 + (y : Int))) va vn vc qs := ⟨(hq.keep b3).wider (by have := HB0.out.size; omega), hql, hok, by rw [← hX]; exact zX, by rw [← hX]; exact hXf, by have := HB0.out.size; omega⟩
  have h3 := h2.keep b3
  have z3 := z2.keep b3
  have svw : Sv [gc] w (w2.alloc (.cells #[.slice va vn vc] 26)) := ((Below.sv HB0.out _).trans sv1).trans ((Below.sv b2 _).trans (Below.sv b3 _))
  have hXH : H < X := by have := HH.out; have := HB0.out.size; omega
  clear zX hq hql b2 h1 h2 z1 z2 hXf hok
  go_wp2_with fail
  obtain ⟨W3, hW3⟩ : ∃ W, w2.alloc (.cells #[.slice va vn vc] 26) = W := ⟨_, rfl⟩
  rw [hW3] at dc3 h3 z3 svw b3 ⊢
  try rw [hX]
  clear hW3 b3 hX sv1
  refine (below_step gc n cap a zs 20 W3 h3 (by omega) (by omega)).mono ?_
  rintro e w4 ⟨y2, rfl, hy2, h4, gr4⟩
  have HST : Hid (∃ ds va vn vc qs, DC W0 w4 X ds va vn vc qs ∧ Src w4 gc n cap a zs ∧ Blk w4 H 26 #[.slice none 0 0] ∧ Sv [gc] w w4) := ⟨_, _, _, _, _, dc3.svs (sv_grown gr4) (by omega), h4, Blk.svs z3 (sv_grown gr4) (by simp; omega), svw.trans (sv_grown gr4)⟩
  clear dc3 h3 z3 svw h4 gr4
  go_wp2
  go_loopw [4] (fun i wr => ∃ j : Nat, j ≤ 20 ∧ i = .int .i64 j ∧ Hid (∃ ds va vn vc qs, DC W0 wr X ds va vn vc qs ∧ Src wr gc n cap a zs ∧ Blk wr H 26 #[.slice none 0 0] ∧ Sv [gc] w wr)) (fun i _ => (intOf i).toNat)
  case atStart => exact ⟨y2, by omega, rfl, HST⟩
  case round =>
    obtain ⟨j, hj, rfl, hst⟩ := hrel
    clear HST
    obtain ⟨ds, va, vn, vc, qs, dc, hs, zr, sv⟩ := hst.out
    clear hst
    have hvn : 3 ≤ vn ∧ vn ≤ 24 := by have := dc.len; have := dc.ok.1; have := dc.ok.2.1; omega
    by_cases hj0 : 0 < j
    · have hji : (0 : Int) < (j : Int) := by omega
      obtain ⟨i, rfl⟩ : ∃ i, j = i + 1 := ⟨j - 1, by omega⟩
      have hwi : IntKind.i64.wrap (i : Int) = (i : Int) := wrap_small _ (by omega) (by omega)
      have x0 := dc.x.cell 0
      simp at x0
      go_wp2_with fail
      refine (below_step gc n cap a zs vn wr hs (by omega) (by omega)).mono ?_
      rintro e w5 ⟨k, rfl, hk, hs5, gr5⟩
      have dc5 := dc.svs (sv_grown gr5) (by omega)
      have zr5 := Blk.svs zr (sv_grown gr5) (by simp; omega)
      have sv5 := sv.trans (sv_grown gr5)
      clear dc zr sv hs gr5 x0
      go_wp2_with fail
      refine (once_step gc n cap a zs 6 w5 hs5 (by omega) (by omega)).mono ?_
      rintro e w6 ⟨B, rfl, hs6, gr6⟩
      have dc6 := dc5.svs (sv_grown gr6) (by omega)
      have zr6 := Blk.svs zr5 (sv_grown gr6) (by simp; omega)
      have sv6 := sv5.trans (sv_grown gr6)
      clear dc5 zr5 sv5 hs5 gr6
      have hok6 : chipOkB (qs.map BkR.D) = true := by rw [dc6.bs.D]; exact (chipOkB_iff _).2 dc6.ok
      have x6 := dc6.x.cell 0
      simp at x6
      cases B with
      | true =>
        have hcall := eraseS va vn vc qs (k : Int) w6 dc6.cr
        rw [hok6, dc6.bs.D] at hcall
        go_wp2_with fail
        refine hcall.mono ?_
        rintro e w7 ⟨va', vn', vc', qs', rfl, hq7, hl7, b7⟩
        have u0 := (dc6.x.keep b7).cell 0
        have f0 := (dc6.x.keep b7).frozen 0
        simp at u0
        have HN : Hid (∃ ds va vn vc qs, DC W0 (w7.setCell ⟨X, 0, none⟩ (.slice va' vn' vc')) X ds va vn vc qs ∧ Src (w7.setCell ⟨X, 0, none⟩ (.slice va' vn' vc')) gc n cap a zs ∧ Blk (w7.setCell ⟨X, 0, none⟩ (.slice va' vn' vc')) H 26 #[.slice none 0 0] ∧ Sv [gc] w (w7.setCell ⟨X, 0, none⟩ (.slice va' vn' vc'))) := ⟨_, _, _, _, _, dc6.put b7 hq7 hl7 (ok_erase dc6.ok _), (hs6.keep b7).set (by omega), (zr6.keep b7).other (B' := X) (by omega) 0 _, sv_new (sv6.trans (Below.sv b7 _)) (by have := dc6.xn; have := HH.out; omega)⟩
        clear hcall dc6 zr6 sv6 hs6 hq7 hl7 b7 x6 hok6
        go_wp2
        go_roundw
        case rel => exact ⟨i, by omega, by go_num, HN⟩
        case measure => simp [intOf]
      | false =>
        have x6d : w6.drew.cell? ⟨X, 0, none⟩ = some (.slice va vn vc) := x6
        have dc6d := dc6.keep (Below.refl w6.heap.size w6).drew
        have hs6d := hs6.keep (Below.refl w6.heap.size w6).drew
        have zr6d := zr6.keep (Below.refl w6.heap.size w6).drew
        have sv6d := sv6.trans (Below.sv (Below.refl w6.heap.size w6).drew [gc])
        go_wp2
        go_region_with (first
          | (go_at_call 30; (with_reducible refine (some_step gc n cap a zs w6.drew hs6d).mono ?_); rintro e w7 ⟨gy, my, cy, ys, rfl, hmy, hgy, _, oy, hs7, gr7⟩; have dc7 := dc6d.svs (sv_grown gr7) (by omega); have x7 := dc7.x.cell 0; simp at x7)
          | (go_at_call 15; (with_reducible refine (programS va vn vc qs (k : Int) (some ⟨gy, 0, none⟩) my cy ys w7 oy.len2 (by omega) dc7.cr oy.rd).mono ?_); rintro e w8 ⟨va', vn', vc', qs', rfl, hq8, hl8, b8⟩; have u0 := (dc7.x.keep b8).cell 0; have f0 := (dc7.x.keep b8).frozen 0; simp at u0))
        all_goals (
          rw [hok6, dc7.bs.D] at hq8
          have HN : Hid (∃ ds va vn vc qs, DC W0 (w8.setCell ⟨X, 0, none⟩ (.slice va' vn' vc')) X ds va vn vc qs ∧ Src (w8.setCell ⟨X, 0, none⟩ (.slice va' vn' vc')) gc n cap a zs ∧ Blk (w8.setCell ⟨X, 0, none⟩ (.slice va' vn' vc')) H 26 #[.slice none 0 0] ∧ Sv [gc] w (w8.setCell ⟨X, 0, none⟩ (.slice va' vn' vc'))) := ⟨_, _, _, _, _, dc7.put b8 hq8 hl8 (ok_prog dc7.ok _ _), (hs7.keep b8).set (by omega), ((Blk.svs zr6d (sv_grown gr7) (by simp; omega)).keep b8).other (B' := X) (by omega) 0 _, sv_new ((sv6d.trans (sv_grown gr7)).trans (Below.sv b8 _)) (by have := dc7.xn; have := HH.out; omega)⟩
          clear dc6 zr6 sv6 hs6 dc6d hs6d zr6d sv6d dc7 hq8 hl8 b8 x6 x6d hok6 oy hs7 gr7
          go_wp2
          go_roundw)
        all_goals first
          | (case rel => exact ⟨i, by omega, by go_num, HN⟩)
          | (case measure => simp [intOf])
    · have hji : ¬ (0 : Int) < (j : Int) := by omega
      have x0 := dc.x.cell 0
      simp at x0
      go_wp2_with fail
      refine (once_step gc n cap a zs 3 wr hs (by omega) (by omega)).mono ?_
      rintro e w5 ⟨B, rfl, hs5, gr5⟩
      have dc5 := dc.svs (sv_grown gr5) (by omega)
      have zr5 := Blk.svs zr (sv_grown gr5) (by simp; omega)
      have sv5 := sv.trans (sv_grown gr5)
      clear dc zr sv hs gr5 x0
      have x5 := dc5.x.cell 0
      simp at x5
      obtain ⟨g, rfl⟩ := dc5.some
      cases B with
      | true =>
        have x5d : w5.drew.cell? ⟨X, 0, none⟩ = some (.slice (some ⟨g, 0, none⟩) vn vc) := x5
        have dc5d := dc5.keep (Below.refl w5.heap.size w5).drew
        have hs5d := hs5.keep (Below.refl w5.heap.size w5).drew
        have zr5d := zr5.keep (Below.refl w5.heap.size w5).drew
        have sv5d := sv5.trans (Below.sv (Below.refl w5.heap.size w5).drew [gc])
        go_wp2
        go_region_with (
          (go_at_call 32; (with_reducible refine (below_step gc n cap a zs vn w5.drew hs5d (by omega) (by omega)).mono ?_); rintro e w6 ⟨k, rfl, hk, hs6, gr6⟩; have dc6 := dc5d.svs (sv_grown gr6) (by omega); have hki : (k : Int) < (vn : Int) := (by omega); obtain ⟨b, hb, v0, vf, x6⟩ := dc6.bk k hk; skip))
        all_goals (
          have hgn := dc6.bs.new g (fpBs_row rfl)
          have hgX : X ≠ g := fun e => dc6.xf (e ▸ fpBs_row rfl)
          have hbd : BkOk (⟨b.ps.map PgR.D, b.wear, true⟩ : BkD) := by
            have hb1 : BkOk b.D := dc6.ok.2.2 _ (by rw [← dc6.bs.D]; exact List.mem_map_of_mem (List.mem_of_getElem? hb))
            exact hb1
          have dc7 : DC W0 (w6.setCell ⟨g, k * 3 + 2, none⟩ (.bool true)) X (ds.set k ⟨b.ps.map PgR.D, b.wear, true⟩) (some ⟨g, 0, none⟩) vn vc (qs.set k ⟨b.a, b.cap, b.ps, b.wear, true⟩) := ⟨dc6.bs.bad dc6.n hb true, by rw [List.length_set]; exact dc6.n, ok_set dc6.ok hbd, dc6.x.other (B' := g) (by omega) _ _, fun hf => by
              rcases fp_put (S := X + 1) (q' := ⟨b.a, b.cap, b.ps, b.wear, true⟩) hb (fun i hi => .inl hi) X hf with h1 | h1
              · exact dc6.xf h1
              · omega, dc6.xn⟩
          have zr7 := ((Blk.svs zr5d (sv_grown gr6) (by simp; omega))).other (B' := g) (by omega) (k * 3 + 2) (.bool true)
          have hs7 := hs6.set (X := g) (i := k * 3 + 2) (v := .bool true) (by omega)
          have sv7 := sv_new (X := g) (i := k * 3 + 2) (v := .bool true) (sv5d.trans (sv_grown gr6)) (by have := HB0.out.size; omega)
          clear dc5d hs5d zr5d sv5d dc6 hs6 gr6 x5d v0 vf x6
          obtain ⟨W7, hW7⟩ : ∃ W, w6.setCell ⟨g, k * 3 + 2, none⟩ (.bool true) = W := ⟨_, rfl⟩
          rw [hW7] at dc7 zr7 hs7 sv7 ⊢
          clear hW7
          have fX := dc7.x.cell 0
          simp at fX
          have fH := zr7.cell 0
          have fF := zr7.frozen 0
          simp at fH
          have d0 := (zr7.set 0 (.slice (some ⟨g, 0, none⟩) vn vc)).cell 0
          simp at d0
          have HE : Hid (DrA w gc n cap a zs (.returned (.agg #[.slice (some ⟨g, 0, none⟩) vn vc])) (W7.setCell ⟨H, 0, none⟩ (.slice (some ⟨g, 0, none⟩) vn vc))) := ⟨_, _, _, _, _, rfl, (dc7.bs.set_below (j := H) (by omega)).wider HB0.out.size, dc7.n, dc7.ok, hs7.set (by omega), sv_new sv7 (by have := HH.out; omega)⟩
          clear dc5 zr5 sv5 hs5 x5
          go_wp2
          refine bodyPost_ret (v := .agg #[.slice (some ⟨g, 0, none⟩) vn vc]) (by simp [results, Tryd.f38, go_sem, d0]) rfl ?_
          rw [← HGP.out]
          exact HE.out)
      | false =>
        have fX := dc5.x.cell 0
        simp at fX
        have fH := zr5.cell 0
        have fF := zr5.frozen 0
        simp at fH
        have d0 := (zr5.set 0 (.slice (some ⟨g, 0, none⟩) vn vc)).cell 0
        simp at d0
        have HE : Hid (DrA w gc n cap a zs (.returned (.agg #[.slice (some ⟨g, 0, none⟩) vn vc])) (w5.setCell ⟨H, 0, none⟩ (.slice (some ⟨g, 0, none⟩) vn vc))) := ⟨_, _, _, _, _, rfl, (dc5.bs.set_below (j := H) (by omega)).wider HB0.out.size, dc5.n, dc5.ok, hs5.set (by omega), sv_new sv5 (by have := HH.out; omega)⟩
        clear dc5 zr5 sv5 hs5 x5
        go_wp2
        refine bodyPost_ret (v := .agg #[.slice (some ⟨g, 0, none⟩) vn vc]) (by simp [results, Tryd.f38, go_sem, d0]) rfl ?_
        rw [← HGP.out]
        exact HE.out
end
end Go.Proofs.YtcohppfocfepdaaDoor
