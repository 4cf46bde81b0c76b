/-
  Joined: LdO, LdP, LdJ.
-/
import Derived.Test.YtpejfkgbfdkdnaaJ38B
namespace Go.Proofs.Ytpejfkgbfdkdnaa
section
open Go.RowKit
/-- A log was drawn, right or not, by itself. -/
def DrawnLk (w : World) (e : Ending) (w' : World) : Prop := ∃ (va : Option Addr) (vn vc : Nat) (op : Int) (fa : Option Addr) (m fc : Nat) (dn : Bool) (seq : Int) (qs : List BkR) (fs : List FtD), e = .returned (.agg #[.slice va vn vc, .int .i64 op, .slice fa m fc, .bool dn, .int .i64 seq]) ∧ ACR w.heap.size w' va vn qs ∧ PgV vn qs ∧ AFR w.heap.size w' fa m fs ∧ m ≤ 21 ∧ Below w.heap.size w w'
set_option maxRecDepth 100000 in
set_option maxHeartbeats 8000000 in
theorem drawLogOk_any (a : Option Addr) (n cap : Nat) (zs : List Int) (w : World) (hn : zs.length = n) (hs : n ≤ 1048576) (hr : Rd w a zs) (hb : Byt zs) :
    Calls Try.prog 13 #[.slice a n cap] w (DrawnLk w) := by
  have b0 : Below w.heap.size w (w.alloc (.cells #[.slice none 0 0, .int .i64 0, .slice none 0 0, .bool false, .int .i64 0] 31)) := (Below.refl _ w).alloc (Nat.le_refl _) _
  have z0 := Blk.new w 31 #[.slice none 0 0, .int .i64 0, .slice none 0 0, .bool false, .int .i64 0]
  have hsz : (w.alloc (.cells #[.slice none 0 0, .int .i64 0, .slice none 0 0, .bool false, .int .i64 0] 31)).heap.size = w.heap.size + 1 := by simp
  have HSZ : Hid _ := hsz
  have HB0 : Hid _ := b0
  obtain ⟨P, hP⟩ : ∃ P, DrawnLk w = P := ⟨_, rfl⟩
  have HP : Hid _ := hP
  rw [hP]
  clear hsz hP
  go_enter Try.func13, Try.ntmps13
  go_wp2_with fail
  refine (new_step a n cap zs _ hn hs (hr.keep b0) hb).mono ?_
  rintro e w1 ⟨rfl, s1, b1⟩
  have zr := z0.keep b1
  have B1 := HB0.out.trans (b1.mono HB0.out.size)
  rw [HSZ.out] at s1 ⊢
  have hsz1 := b1.size
  rw [HSZ.out] at hsz1
  have hc1 := s1.cur.lt
  clear z0 b0 b1 hr hb hn
  go_wp2_with fail
  (with_reducible refine (l13AnyS _ n cap a zs w1 s1).mono ?_)
  rintro e w2 ⟨va, vn, vc, op, fa, m, fc, dn, seq, qs, fs, rfl, ac2, hv2, af2, hm2, s2, sv2⟩
  have zr2 : Blk w2 w.heap.size 31 _ := Blk.svs zr sv2 (by simp)
  have B2 : Below w.heap.size w w2 := below_svs B1 sv2 (by simp) (Nat.le_refl _)
  clear zr B1 s1
  have hsv2 := sv2.size
  have ac4 : ACR (w.heap.size + 1) w2 va vn qs := ac2.less (by omega)
  have af4 : AFR (w.heap.size + 1) w2 fa m fs := af2.less (by omega)
  have HQ : Hid (DrawnLk w (.returned (.agg #[.slice va vn vc, .int .i64 op, .slice fa m fc, .bool dn, .int .i64 seq])) (((((w2.setCell ⟨w.heap.size, 0, none⟩ (.slice va vn vc)).setCell ⟨w.heap.size, 1, none⟩ (.int .i64 op)).setCell ⟨w.heap.size, 2, none⟩ (.slice fa m fc)).setCell ⟨w.heap.size, 3, none⟩ (.bool dn)).setCell ⟨w.heap.size, 4, none⟩ (.int .i64 seq))) := by
    refine ⟨va, vn, vc, op, fa, m, fc, dn, seq, qs, fs, rfl, (((((ac4.far (by omega) _).far (by omega) _).far (by omega) _).far (by omega) _).far (by omega) _).less (by omega), hv2, (((((af4.far (by omega) _).far (by omega) _).far (by omega) _).far (by omega) _).far (by omega) _).less (by omega), hm2, ?_⟩
    exact ((((B2.setCell (p := ⟨w.heap.size, 0, none⟩) (Nat.le_refl _) _).setCell (p := ⟨w.heap.size, 1, none⟩) (Nat.le_refl _) _).setCell (p := ⟨w.heap.size, 2, none⟩) (Nat.le_refl _) _).setCell (p := ⟨w.heap.size, 3, none⟩) (Nat.le_refl _) _).setCell (p := ⟨w.heap.size, 4, none⟩) (Nat.le_refl _) _
  obtain ⟨r0, r1, r2, r3, r4⟩ := zr2.log
  have f0 := zr2.frozen 0
  have f1 := zr2.frozen 1
  have f2 := zr2.frozen 2
  have f3 := zr2.frozen 3
  have f4 := zr2.frozen 4
  have zf := (((((zr2.set 0 (.slice va vn vc)).set 1 (.int .i64 op)).set 2 (.slice fa m fc)).set 3 (.bool dn)).set 4 (.int .i64 seq))
  simp at zf
  obtain ⟨t0, t1, t2, t3, t4⟩ := zf.log
  clear zr2 B2 s2 sv2 zf ac2 af2 ac4 af4
  go_wp2
  refine bodyPost_ret (v := .agg #[.slice va vn vc, .int .i64 op, .slice fa m fc, .bool dn, .int .i64 seq]) (by simp [results, Try.f13, go_sem, t0, t1, t2, t3, t4]) rfl ?_
  rw [← HP.out]
  exact HQ.out
end

section
open Go.RowKit
theorem ad_in (k : Nat) (h : k < 8) : -1 ≤ ([0, 1, 2, 8, 9, 16, -1, 200] : List Int).getD k 0 ∧ ([0, 1, 2, 8, 9, 16, -1, 200] : List Int).getD k 0 ≤ 200 := by
  rcases (show k = 0 ∨ k = 1 ∨ k = 2 ∨ k = 3 ∨ k = 4 ∨ k = 5 ∨ k = 6 ∨ k = 7 by omega) with rfl | rfl | rfl | rfl | rfl | rfl | rfl | rfl <;> simp
/-- A log was drawn, right or not, an address and a kind. -/
def DrawnRd (w : World) (e : Ending) (w' : World) : Prop := ∃ (va : Option Addr) (vn vc : Nat) (op : Int) (fa : Option Addr) (m fc : Nat) (dn : Bool) (seq sp : Int) (kd : Nat) (qs : List BkR) (fs : List FtD), e = .returned (.tuple #[.agg #[.slice va vn vc, .int .i64 op, .slice fa m fc, .bool dn, .int .i64 seq], .int .i64 sp, .int .i64 (1 + (kd : Int))]) ∧ -1 ≤ sp ∧ sp ≤ 200 ∧ kd < 4 ∧ ACR w.heap.size w' va vn qs ∧ PgV vn qs ∧ AFR w.heap.size w' fa m fs ∧ m ≤ 21 ∧ Below w.heap.size w w'
set_option maxRecDepth 100000 in
set_option maxHeartbeats 8000000 in
theorem drawReadAt_any (a : Option Addr) (n cap : Nat) (zs : List Int) (w : World) (hn : zs.length = n) (hs : n ≤ 1048576) (hr : Rd w a zs) (hb : Byt zs) :
    Calls Try.prog 14 #[.slice a n cap] w (DrawnRd w) := by
  have b0 : Below w.heap.size w (w.alloc (.cells #[.slice none 0 0, .int .i64 0, .slice none 0 0, .bool false, .int .i64 0] 31)) := (Below.refl _ w).alloc (Nat.le_refl _) _
  have z0 := Blk.new w 31 #[.slice none 0 0, .int .i64 0, .slice none 0 0, .bool false, .int .i64 0]
  have hsz : (w.alloc (.cells #[.slice none 0 0, .int .i64 0, .slice none 0 0, .bool false, .int .i64 0] 31)).heap.size = w.heap.size + 1 := by simp
  have HSZ : Hid _ := hsz
  have HB0 : Hid _ := b0
  obtain ⟨P, hP⟩ : ∃ P, DrawnRd w = P := ⟨_, rfl⟩
  have HP : Hid _ := hP
  rw [hP]
  clear hsz hP
  go_enter Try.func14, Try.ntmps14
  go_wp2_with fail
  refine (new_step a n cap zs _ hn hs (hr.keep b0) hb).mono ?_
  rintro e w1 ⟨rfl, s1, b1⟩
  have zr := z0.keep b1
  have B1 := HB0.out.trans (b1.mono HB0.out.size)
  rw [HSZ.out] at s1 ⊢
  have hsz1 := b1.size
  rw [HSZ.out] at hsz1
  have hc1 := s1.cur.lt
  clear z0 b0 b1 hr hb hn
  go_wp2_with fail
  (with_reducible refine (l13AnyS _ n cap a zs w1 s1).mono ?_)
  rintro e w2 ⟨va, vn, vc, op, fa, m, fc, dn, seq, qs, fs, rfl, ac2, hv2, af2, hm2, s2, sv2⟩
  have zr2 : Blk w2 w.heap.size 31 _ := Blk.svs zr sv2 (by simp)
  have B2 : Below w.heap.size w w2 := below_svs B1 sv2 (by simp) (Nat.le_refl _)
  clear zr B1 s1
  have hcl : ∀ j, j < 8 → (w2.alloc (.cells #[.int .i64 0, .int .i64 1, .int .i64 2, .int .i64 8, .int .i64 9, .int .i64 16, .int .i64 (-1), .int .i64 200] 3)).cell? ⟨w2.heap.size, j, none⟩ = some (.int .i64 (([0, 1, 2, 8, 9, 16, -1, 200] : List Int).getD j 0)) := fun j hj => ints_cells w2 [0, 1, 2, 8, 9, 16, -1, 200] 3 j hj
  have HCL : Hid _ := hcl
  have b3 : Below w2.heap.size w2 (w2.alloc (.cells #[.int .i64 0, .int .i64 1, .int .i64 2, .int .i64 8, .int .i64 9, .int .i64 16, .int .i64 (-1), .int .i64 200] 3)) := (Below.refl _ _).alloc (Nat.le_refl _) _
  have hsv2 := sv2.size
  have s3 := s2.keep b3
  have k3 := Below.sv b3 [w.heap.size + 1]
  have zr3 := zr2.keep b3
  clear hcl sv2 s2 zr2 b3
  go_wp2_with fail
  refine (int_step _ n cap a zs w2.heap.size 8 [0, 1, 2, 8, 9, 16, -1, 200] _ s3 rfl (by omega) (by omega) (by omega) HCL.out).mono ?_
  rintro e w4 ⟨k, rfl, hk, s4, g4⟩
  have hsp := ad_in k hk
  generalize ([0, 1, 2, 8, 9, 16, -1, 200] : List Int).getD k 0 = sp at hsp ⊢
  have hsz4 := g4.size
  go_wp2_with fail
  have hb4 := below_step _ n cap a zs 4 _ s4 (by omega) (by omega)
  rw [show ((4 : Nat) : Int) = 4 from rfl] at hb4
  refine hb4.mono ?_
  rintro e w5 ⟨kd, rfl, hkd, s5, g5⟩
  have hwk : IntKind.i64.wrap (1 + (kd : Int)) = 1 + (kd : Int) := wrap_small _ (by omega) (by omega)
  have k4 := (k3.trans (sv_grown g4)).trans (sv_grown g5)
  have zr : Blk w5 w.heap.size 31 _ := Blk.svs (Blk.svs zr3 (sv_grown g4) (by simp)) (sv_grown g5) (by simp)
  have B4 : Below w.heap.size w w5 := below_svs B2 k4 (by simp) (Nat.le_refl _)
  have ac4 : ACR (w.heap.size + 1) w5 va vn qs := ((ac2.svs k4 (by simp; omega)).less (by omega))
  have af4 : AFR (w.heap.size + 1) w5 fa m fs := (fun W hW => (af2 W (fun i h1 h2 => (hW i (by omega) (by have := k4.size; omega)).trans (k4.block i h2 (by simp; omega)))))
  have HQ : Hid (DrawnRd w (.returned (.tuple #[.agg #[.slice va vn vc, .int .i64 op, .slice fa m fc, .bool dn, .int .i64 seq], .int .i64 sp, .int .i64 (1 + (kd : Int))])) (((((w5.setCell ⟨w.heap.size, 0, none⟩ (.slice va vn vc)).setCell ⟨w.heap.size, 1, none⟩ (.int .i64 op)).setCell ⟨w.heap.size, 2, none⟩ (.slice fa m fc)).setCell ⟨w.heap.size, 3, none⟩ (.bool dn)).setCell ⟨w.heap.size, 4, none⟩ (.int .i64 seq))) := by
    refine ⟨va, vn, vc, op, fa, m, fc, dn, seq, sp, kd, qs, fs, rfl, hsp.1, hsp.2, hkd, (((((ac4.far (by omega) _).far (by omega) _).far (by omega) _).far (by omega) _).far (by omega) _).less (by omega), hv2, (((((af4.far (by omega) _).far (by omega) _).far (by omega) _).far (by omega) _).far (by omega) _).less (by omega), hm2, ?_⟩
    exact ((((B4.setCell (p := ⟨w.heap.size, 0, none⟩) (Nat.le_refl _) _).setCell (p := ⟨w.heap.size, 1, none⟩) (Nat.le_refl _) _).setCell (p := ⟨w.heap.size, 2, none⟩) (Nat.le_refl _) _).setCell (p := ⟨w.heap.size, 3, none⟩) (Nat.le_refl _) _).setCell (p := ⟨w.heap.size, 4, none⟩) (Nat.le_refl _) _
  obtain ⟨r0, r1, r2, r3, r4⟩ := zr.log
  have f0 := zr.frozen 0
  have f1 := zr.frozen 1
  have f2 := zr.frozen 2
  have f3 := zr.frozen 3
  have f4 := zr.frozen 4
  have zf := (((((zr.set 0 (.slice va vn vc)).set 1 (.int .i64 op)).set 2 (.slice fa m fc)).set 3 (.bool dn)).set 4 (.int .i64 seq))
  simp at zf
  obtain ⟨t0, t1, t2, t3, t4⟩ := zf.log
  clear zr zr3 B2 B4 s3 s4 g4 s5 g5 hb4 zf k3 k4 ac2 af2 ac4 af4 HCL
  go_wp2
  refine bodyPost_ret (v := .tuple #[.agg #[.slice va vn vc, .int .i64 op, .slice fa m fc, .bool dn, .int .i64 seq], .int .i64 sp, .int .i64 (1 + (kd : Int))]) (by simp [results, Try.f14, go_sem, t0, t1, t2, t3, t4]) rfl ?_
  rw [← HP.out]
  exact HQ.out
end

section
open Go.RowKit
/-- A right log was drawn, and a body, all in memory of their own. -/
def DrawnLog (w : World) (e : Ending) (w' : World) : Prop := ∃ (D : DvD) (seq : Int) (va : Option Addr) (vn vc : Nat) (fa : Option Addr) (m fc : Nat) (qs : List BkR) (g mb c : Nat) (ys : List Int), e = .returned (.tuple #[.agg #[.slice va vn vc, .int .i64 D.ops, .slice fa m fc, .bool D.down, .int .i64 seq], .slice (some ⟨g, 0, none⟩) mb c]) ∧ NewDv w' w.heap.size va vn vc fa m fc D.ds D.fs qs ∧ qs.length = vn ∧ devB D.ds D.ops D.fs = true ∧ BytC D.ds ∧ SeqO 20 D.ds D.ops seq ∧ mb ≤ 9 ∧ Own w' g mb c ys ∧ Byt ys ∧ w.heap.size ≤ g ∧ g ∉ fpDv va vn vc fa m fc qs ∧ Below w.heap.size w w'
set_option maxRecDepth 100000 in
set_option maxHeartbeats 8000000 in
theorem drawLog_any (a : Option Addr) (n cap : Nat) (zs : List Int) (w : World) (hn : zs.length = n) (hs : n ≤ 1048576) (hr : Rd w a zs) (hb : Byt zs) :
    Calls Try.prog 12 #[.slice a n cap] w (DrawnLog w) := by
  have b0 : Below w.heap.size w (w.alloc (.cells #[.slice none 0 0, .int .i64 0, .slice none 0 0, .bool false, .int .i64 0] 31)) := (Below.refl _ w).alloc (Nat.le_refl _) _
  have z0 := Blk.new w 31 #[.slice none 0 0, .int .i64 0, .slice none 0 0, .bool false, .int .i64 0]
  have hsz : (w.alloc (.cells #[.slice none 0 0, .int .i64 0, .slice none 0 0, .bool false, .int .i64 0] 31)).heap.size = w.heap.size + 1 := by simp
  have HSZ : Hid _ := hsz
  have HB0 : Hid _ := b0
  obtain ⟨P, hP⟩ : ∃ P, DrawnLog w = P := ⟨_, rfl⟩
  have HP : Hid _ := hP
  rw [hP]
  clear hsz hP
  go_enter Try.func12, Try.ntmps12
  go_wp2_with fail
  refine (new_step a n cap zs _ hn hs (hr.keep b0) hb).mono ?_
  rintro e w1 ⟨rfl, s1, b1⟩
  have zr := z0.keep b1
  have B1 := HB0.out.trans (b1.mono HB0.out.size)
  rw [HSZ.out] at s1 ⊢
  have hsz1 := b1.size
  rw [HSZ.out] at hsz1
  have hc1 := s1.cur.lt
  clear z0 b0 b1 hr hb hn
  go_wp2_with fail
  (with_reducible refine (l13DrawS _ n cap a zs w1 s1).mono ?_)
  rintro e w2 ⟨D, seq, va, vn, vc, fa, m, fc, qs, rfl, hnd, hql, hok, hbt, hsq, s2, sv2⟩
  have zr2 : Blk w2 w.heap.size 31 _ := Blk.svs zr sv2 (by simp)
  have B2 : Below w.heap.size w w2 := below_svs B1 sv2 (by simp) (Nat.le_refl _)
  have hsv2 := sv2.size
  clear zr B1 s1 sv2
  go_wp2_with fail
  refine (some_step _ n cap a zs w2 s2).mono ?_
  rintro e w4 ⟨g, mb, c, ys, rfl, hmb, hg, hby, oy, s4, g4⟩
  have k4 := sv_grown g4
  have zr : Blk w4 w.heap.size 31 _ := Blk.svs zr2 k4 (by simp)
  have B4 : Below w.heap.size w w4 := below_svs B2 k4 (by simp) (Nat.le_refl _)
  have nd4 : NewDv w4 (w.heap.size + 1) va vn vc fa m fc D.ds D.fs qs := (hnd.svs k4 (fun j hj hf => by have := hnd.from j hj; simp at hf; omega)).wider (by omega)
  have hgf : g ∉ fpDv va vn vc fa m fc qs := fun hf => by have := hnd.lt g hf; omega
  have HQ : Hid (DrawnLog w (.returned (.tuple #[.agg #[.slice va vn vc, .int .i64 D.ops, .slice fa m fc, .bool D.down, .int .i64 seq], .slice (some ⟨g, 0, none⟩) mb c])) (((((w4.setCell ⟨w.heap.size, 0, none⟩ (.slice va vn vc)).setCell ⟨w.heap.size, 1, none⟩ (.int .i64 D.ops)).setCell ⟨w.heap.size, 2, none⟩ (.slice fa m fc)).setCell ⟨w.heap.size, 3, none⟩ (.bool D.down)).setCell ⟨w.heap.size, 4, none⟩ (.int .i64 seq))) := by
    have on : ∀ (W : World) (i : Nat) (v : Value), Own W g mb c ys → Own (W.setCell ⟨w.heap.size, i, none⟩ v) g mb c ys := fun W i v h => Own.kept h (gr_setC W w.heap.size i v) (by omega)
    refine ⟨D, seq, va, vn, vc, fa, m, fc, qs, g, mb, c, ys, rfl, (((((nd4.set_below (by omega)).set_below (by omega)).set_below (by omega)).set_below (by omega)).set_below (by omega)).wider (by omega), hql, hok, hbt, hsq, hmb, on _ _ _ (on _ _ _ (on _ _ _ (on _ _ _ (on _ _ _ oy)))), hby, by omega, hgf, ?_⟩
    exact ((((B4.setCell (p := ⟨w.heap.size, 0, none⟩) (Nat.le_refl _) _).setCell (p := ⟨w.heap.size, 1, none⟩) (Nat.le_refl _) _).setCell (p := ⟨w.heap.size, 2, none⟩) (Nat.le_refl _) _).setCell (p := ⟨w.heap.size, 3, none⟩) (Nat.le_refl _) _).setCell (p := ⟨w.heap.size, 4, none⟩) (Nat.le_refl _) _
  obtain ⟨r0, r1, r2, r3, r4⟩ := zr.log
  have f0 := zr.frozen 0
  have f1 := zr.frozen 1
  have f2 := zr.frozen 2
  have f3 := zr.frozen 3
  have f4 := zr.frozen 4
  have zf := (((((zr.set 0 (.slice va vn vc)).set 1 (.int .i64 D.ops)).set 2 (.slice fa m fc)).set 3 (.bool D.down)).set 4 (.int .i64 seq))
  simp at zf
  obtain ⟨t0, t1, t2, t3, t4⟩ := zf.log
  clear zr zr2 B2 B4 s2 s4 g4 zf k4 hnd nd4 oy hgf hbt hok hsq
  go_wp2
  refine bodyPost_ret (v := .tuple #[.agg #[.slice va vn vc, .int .i64 D.ops, .slice fa m fc, .bool D.down, .int .i64 seq], .slice (some ⟨g, 0, none⟩) mb c]) (by simp [results, Try.f12, go_sem, t0, t1, t2, t3, t4]) rfl ?_
  rw [← HP.out]
  exact HQ.out
end
end Go.Proofs.Ytpejfkgbfdkdnaa
