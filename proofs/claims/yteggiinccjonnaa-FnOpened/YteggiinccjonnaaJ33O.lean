/-
  Joined: LdH, LdI.
-/
import Derived.Test.YteggiinccjonnaaJ32O
namespace Go.Proofs.Yteggiinccjonnaa
section
open Go.RowKit
theorem below_svs {H : Nat} {F : List Nat} {w0 w w' : World} (h : Below H w0 w) (k : Sv F w w') (hF : ∀ g ∈ F, H ≤ g) (hH : H ≤ w0.heap.size) : Below H w0 w' :=
  ⟨k.os.trans h.os, k.tape.trans h.tape, k.output.trans h.output, Nat.le_trans h.size k.size, fun i hi => (k.block i (by have := h.size; omega) (fun hf => by have := hF i hf; omega)).trans (h.block i hi)⟩
theorem quad_cells (w : World) (x y z u : Int) (t : TypeId) (j : Nat) (hj : j < 4) : (w.alloc (.cells #[.int .i64 x, .int .i64 y, .int .i64 z, .int .i64 u] t)).cell? ⟨w.heap.size, j, none⟩ = some (.int .i64 (([x, y, z, u] : List Int).getD j 0)) := ints_cells w [x, y, z, u] t j hj
theorem sp_in (k : Nat) (h : k < 4) : -1 ≤ ([0, 1, 2, -1] : List Int).getD k 0 ∧ ([0, 1, 2, -1] : List Int).getD k 0 ≤ 2 := by
  rcases (show k = 0 ∨ k = 1 ∨ k = 2 ∨ k = 3 by omega) with rfl | rfl | rfl | rfl <;> simp
/-- A log was drawn, right or not, and a number. -/
def DrawnOB (w : World) (e : Ending) (w' : World) : Prop := ∃ (va : Option Addr) (vn vc : Nat) (op : Int) (fa : Option Addr) (m fc : Nat) (dn : Bool) (seq sp : Int) (qs : List BkR) (fs : List FtD), e = .returned (.tuple #[.agg #[.slice va vn vc, .int .i64 op, .slice fa m fc, .bool dn, .int .i64 seq], .int .i64 sp]) ∧ -1 ≤ sp ∧ sp ≤ 2 ∧ ACR w.heap.size w' va vn qs ∧ PgV vn qs ∧ AFR w.heap.size w' fa m fs ∧ m ≤ 21 ∧ Below w.heap.size w w'
set_option maxRecDepth 100000 in
set_option maxHeartbeats 8000000 in
theorem drawOpenBlock_any (a : Option Addr) (n cap : Nat) (zs : List Int) (w : World) (hn : zs.length = n) (hs : n ≤ 1048576) (hr : Rd w a zs) (hb : Byt zs) :
    Calls Try.prog 6 #[.slice a n cap] w (DrawnOB w) := by
  have b0 : Below w.heap.size w (w.alloc (.cells #[.slice none 0 0, .int .i64 0, .slice none 0 0, .bool false, .int .i64 0] 31)) := (Below.refl _ w).alloc (Nat.le_refl _) _
  have z0 := Blk.new w 31 #[.slice none 0 0, .int .i64 0, .slice none 0 0, .bool false, .int .i64 0]
  have hsz : (w.alloc (.cells #[.slice none 0 0, .int .i64 0, .slice none 0 0, .bool false, .int .i64 0] 31)).heap.size = w.heap.size + 1 := by simp
  have HSZ : Hid _ := hsz
  have HB0 : Hid _ := b0
  obtain ⟨P, hP⟩ : ∃ P, DrawnOB w = P := ⟨_, rfl⟩
  have HP : Hid _ := hP
  rw [hP]
  clear hsz hP
  go_enter Try.func6, Try.ntmps6
  go_wp2_with fail
  refine (new_step a n cap zs _ hn hs (hr.keep b0) hb).mono ?_
  rintro e w1 ⟨rfl, s1, b1⟩
  have zr := z0.keep b1
  have B1 := HB0.out.trans (b1.mono HB0.out.size)
  rw [HSZ.out] at s1 ⊢
  have hsz1 := b1.size
  rw [HSZ.out] at hsz1
  have hc1 := s1.cur.lt
  clear z0 b0 b1 hr hb hn
  go_wp2_with fail
  (with_reducible refine (l13AnyS _ n cap a zs w1 s1).mono ?_)
  rintro e w2 ⟨va, vn, vc, op, fa, m, fc, dn, seq, qs, fs, rfl, ac2, hv2, af2, hm2, s2, sv2⟩
  have zr2 : Blk w2 w.heap.size 31 _ := Blk.svs zr sv2 (by simp)
  have B2 : Below w.heap.size w w2 := below_svs B1 sv2 (by simp) (Nat.le_refl _)
  clear zr B1 s1
  have hcl : ∀ j, j < 4 → (w2.alloc (.cells #[.int .i64 0, .int .i64 1, .int .i64 2, .int .i64 (-1)] 3)).cell? ⟨w2.heap.size, j, none⟩ = some (.int .i64 (([0, 1, 2, -1] : List Int).getD j 0)) := fun j hj => quad_cells w2 0 1 2 (-1) 3 j hj
  have HCL : Hid _ := hcl
  have b3 : Below w2.heap.size w2 (w2.alloc (.cells #[.int .i64 0, .int .i64 1, .int .i64 2, .int .i64 (-1)] 3)) := (Below.refl _ _).alloc (Nat.le_refl _) _
  have hsv2 := sv2.size
  have s3 := s2.keep b3
  have k3 := Below.sv b3 [w.heap.size + 1]
  have zr3 := zr2.keep b3
  clear hcl sv2 s2 zr2 b3
  go_wp2_with fail
  refine (int_step _ n cap a zs w2.heap.size 4 [0, 1, 2, -1] _ s3 rfl (by omega) (by omega) (by omega) HCL.out).mono ?_
  rintro e w4 ⟨k, rfl, hk, s4, g4⟩
  have hsp := sp_in k hk
  generalize ([0, 1, 2, -1] : List Int).getD k 0 = sp at hsp ⊢
  have k4 := k3.trans (sv_grown g4)
  have zr : Blk w4 w.heap.size 31 _ := Blk.svs zr3 (sv_grown g4) (by simp)
  have B4 : Below w.heap.size w w4 := below_svs B2 k4 (by simp) (Nat.le_refl _)
  have ac4 : ACR (w.heap.size + 1) w4 va vn qs := ((ac2.svs k4 (by simp; omega)).less (by omega))
  have af4 : AFR (w.heap.size + 1) w4 fa m fs := (fun W hW => (af2 W (fun i h1 h2 => (hW i (by omega) (by have := k4.size; omega)).trans (k4.block i h2 (by simp; omega)))))
  have HQ : Hid (DrawnOB w (.returned (.tuple #[.agg #[.slice va vn vc, .int .i64 op, .slice fa m fc, .bool dn, .int .i64 seq], .int .i64 sp])) (((((w4.setCell ⟨w.heap.size, 0, none⟩ (.slice va vn vc)).setCell ⟨w.heap.size, 1, none⟩ (.int .i64 op)).setCell ⟨w.heap.size, 2, none⟩ (.slice fa m fc)).setCell ⟨w.heap.size, 3, none⟩ (.bool dn)).setCell ⟨w.heap.size, 4, none⟩ (.int .i64 seq))) := by
    refine ⟨va, vn, vc, op, fa, m, fc, dn, seq, sp, qs, fs, rfl, hsp.1, hsp.2, (((((ac4.far (by omega) _).far (by omega) _).far (by omega) _).far (by omega) _).far (by omega) _).less (by omega), hv2, (((((af4.far (by omega) _).far (by omega) _).far (by omega) _).far (by omega) _).far (by omega) _).less (by omega), hm2, ?_⟩
    exact ((((B4.setCell (p := ⟨w.heap.size, 0, none⟩) (Nat.le_refl _) _).setCell (p := ⟨w.heap.size, 1, none⟩) (Nat.le_refl _) _).setCell (p := ⟨w.heap.size, 2, none⟩) (Nat.le_refl _) _).setCell (p := ⟨w.heap.size, 3, none⟩) (Nat.le_refl _) _).setCell (p := ⟨w.heap.size, 4, none⟩) (Nat.le_refl _) _
  obtain ⟨r0, r1, r2, r3, r4⟩ := zr.log
  have f0 := zr.frozen 0
  have f1 := zr.frozen 1
  have f2 := zr.frozen 2
  have f3 := zr.frozen 3
  have f4 := zr.frozen 4
  have zf := (((((zr.set 0 (.slice va vn vc)).set 1 (.int .i64 op)).set 2 (.slice fa m fc)).set 3 (.bool dn)).set 4 (.int .i64 seq))
  simp at zf
  obtain ⟨t0, t1, t2, t3, t4⟩ := zf.log
  clear zr zr3 B2 B4 s3 s4 g4 zf k3 k4 ac2 af2 ac4 af4 HCL
  go_wp2
  refine bodyPost_ret (v := .tuple #[.agg #[.slice va vn vc, .int .i64 op, .slice fa m fc, .bool dn, .int .i64 seq], .int .i64 sp]) (by simp [results, Try.f6, go_sem, t0, t1, t2, t3, t4]) rfl ?_
  rw [← HP.out]
  exact HQ.out
end

section
open Go.RowKit
theorem fst_none {p : BkD → Bool} {ds : List BkD} (h : ¬ 0 ≤ fstD p ds) : ∀ b ∈ ds, p b = false := by
  unfold fstD at h
  split at h
  · omega
  · rename_i hn
    intro b hb
    have := List.findIdx?_eq_none_iff.1 hn b hb
    simpa using this
theorem fst_ge (p : BkD → Bool) (ds : List BkD) : -1 ≤ fstD p ds := by
  unfold fstD
  split <;> omega
theorem open_none {ds : List BkD} {spare : Int} (h : openD ds spare = -1) : (freeD ds : Int) ≤ spare ∨ freeD ds = 0 := by
  unfold openD at h
  split at h
  · omega
  · split at h
    · have h1 := fst_none (p := freeB) (ds := ds) (by omega)
      right
      unfold freeD
      rw [List.filter_eq_nil_iff.2 (fun b hb => by rw [h1 b hb]; simp)]
      rfl
    · omega
theorem open_some {bs : List BkR} {n : Nat} (hp : PgV n bs) {spare : Int} (h : openD (bs.map BkR.D) spare ≠ -1) : ∃ (k : Nat) (r : BkR), openD (bs.map BkR.D) spare = (k : Int) ∧ bs[k]? = some r ∧ r.bad = false ∧ nextP (r.ps.map PgR.D) < r.ps.length ∧ (0 < nextP (r.ps.map PgR.D) ∨ spare < (freeD (bs.map BkR.D) : Int)) := by
  have hr : ∀ {k : Nat} {b : BkD}, (bs.map BkR.D)[k]? = some b → ∃ r, bs[k]? = some r ∧ b = r.D := by
    intro k b hk
    rw [List.getElem?_map] at hk
    cases hb : bs[k]? with
    | none => rw [hb] at hk; simp at hk
    | some r => rw [hb] at hk; simp at hk; exact ⟨r, rfl, hk.symm⟩
  unfold openD at h ⊢
  by_cases h1 : 0 ≤ fstD begB (bs.map BkR.D)
  · rw [if_pos h1] at h ⊢
    obtain ⟨k, b, e, hk, hb⟩ := fstD_hit h1
    obtain ⟨r, hk2, rfl⟩ := hr hk
    unfold begB at hb
    simp [BkR.D] at hb
    obtain ⟨g1, g2, g3⟩ := hb
    exact ⟨k, r, e, hk2, g1, g3, .inl (of_decide_eq_true g2)⟩
  · rw [if_neg h1] at h ⊢
    by_cases h2 : spare < (freeD (bs.map BkR.D) : Int)
    · rw [if_pos h2] at h ⊢
      have h3 := fst_ge freeB (bs.map BkR.D)
      obtain ⟨k, b, e, hk, hb⟩ := fstD_hit (p := freeB) (show 0 ≤ fstD freeB (bs.map BkR.D) by omega)
      obtain ⟨r, hk2, rfl⟩ := hr hk
      have h4 := hp.2 r (List.mem_of_getElem? hk2)
      unfold freeB at hb
      simp [BkR.D] at hb
      obtain ⟨g1, g2⟩ := hb
      exact ⟨k, r, e, hk2, g1, by have := of_decide_eq_true g2; omega, .inr h2⟩
    · rw [if_neg h2] at h
      exact absurd rfl h
end
end Go.Proofs.Yteggiinccjonnaa
