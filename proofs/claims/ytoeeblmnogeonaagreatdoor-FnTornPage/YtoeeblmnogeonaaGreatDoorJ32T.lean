/-
  Joined: LdJ, LogV, TmW, TmZ.
-/
import Derived.Test.YtoeeblmnogeonaaGreatDoorJ31T
namespace Go.Proofs.YtoeeblmnogeonaaGreatDoor
section
open Go.RowKit
/-- A right log was drawn, and a body, all in memory of their own. -/
def DrawnLog (w : World) (e : Ending) (w' : World) : Prop := ∃ (D : DvD) (seq : Int) (va : Option Addr) (vn vc : Nat) (fa : Option Addr) (m fc : Nat) (qs : List BkR) (g mb c : Nat) (ys : List Int), e = .returned (.tuple #[.agg #[.slice va vn vc, .int .i64 D.ops, .slice fa m fc, .bool D.down, .int .i64 seq], .slice (some ⟨g, 0, none⟩) mb c]) ∧ NewDv w' w.heap.size va vn vc fa m fc D.ds D.fs qs ∧ qs.length = vn ∧ devB D.ds D.ops D.fs = true ∧ BytC D.ds ∧ SeqO 20 D.ds D.ops seq ∧ mb ≤ 9 ∧ Own w' g mb c ys ∧ Byt ys ∧ w.heap.size ≤ g ∧ g ∉ fpDv va vn vc fa m fc qs ∧ Below w.heap.size w w'
set_option maxRecDepth 100000 in
set_option maxHeartbeats 8000000 in
theorem drawLog_any (a : Option Addr) (n cap : Nat) (zs : List Int) (w : World) (hn : zs.length = n) (hs : n ≤ 1048576) (hr : Rd w a zs) (hb : Byt zs) :
    Calls Tryz.prog 35 #[.slice a n cap] w (DrawnLog w) := by
  have b0 : Below w.heap.size w (w.alloc (.cells #[.slice none 0 0, .int .i64 0, .slice none 0 0, .bool false, .int .i64 0] 55)) := (Below.refl _ w).alloc (Nat.le_refl _) _
  have z0 := Blk.new w 55 #[.slice none 0 0, .int .i64 0, .slice none 0 0, .bool false, .int .i64 0]
  have hsz : (w.alloc (.cells #[.slice none 0 0, .int .i64 0, .slice none 0 0, .bool false, .int .i64 0] 55)).heap.size = w.heap.size + 1 := by simp
  have HSZ : Hid _ := hsz
  have HB0 : Hid _ := b0
  obtain ⟨P, hP⟩ : ∃ P, DrawnLog w = P := ⟨_, rfl⟩
  have HP : Hid _ := hP
  rw [hP]
  clear hsz hP
  go_enter Tryz.func35, Tryz.ntmps35
  go_wp2_with fail
  refine (new_step a n cap zs _ hn hs (hr.keep b0) hb).mono ?_
  rintro e w1 ⟨rfl, s1, b1⟩
  have zr := z0.keep b1
  have B1 := HB0.out.trans (b1.mono HB0.out.size)
  rw [HSZ.out] at s1 ⊢
  have hsz1 := b1.size
  rw [HSZ.out] at hsz1
  have hc1 := s1.cur.lt
  clear z0 b0 b1 hr hb hn
  go_wp2_with fail
  (with_reducible refine (l13DrawS _ n cap a zs w1 s1).mono ?_)
  rintro e w2 ⟨D, seq, va, vn, vc, fa, m, fc, qs, rfl, hnd, hql, hok, hbt, hsq, s2, sv2⟩
  have zr2 : Blk w2 w.heap.size 55 _ := Blk.svs zr sv2 (by simp)
  have B2 : Below w.heap.size w w2 := below_svs B1 sv2 (by simp) (Nat.le_refl _)
  have hsv2 := sv2.size
  clear zr B1 s1 sv2
  go_wp2_with fail
  refine (some_step _ n cap a zs w2 s2).mono ?_
  rintro e w4 ⟨g, mb, c, ys, rfl, hmb, hg, hby, oy, s4, g4⟩
  have k4 := sv_grown g4
  have zr : Blk w4 w.heap.size 55 _ := Blk.svs zr2 k4 (by simp)
  have B4 : Below w.heap.size w w4 := below_svs B2 k4 (by simp) (Nat.le_refl _)
  have nd4 : NewDv w4 (w.heap.size + 1) va vn vc fa m fc D.ds D.fs qs := (hnd.svs k4 (fun j hj hf => by have := hnd.from j hj; simp at hf; omega)).wider (by omega)
  have hgf : g ∉ fpDv va vn vc fa m fc qs := fun hf => by have := hnd.lt g hf; omega
  have HQ : Hid (DrawnLog w (.returned (.tuple #[.agg #[.slice va vn vc, .int .i64 D.ops, .slice fa m fc, .bool D.down, .int .i64 seq], .slice (some ⟨g, 0, none⟩) mb c])) (((((w4.setCell ⟨w.heap.size, 0, none⟩ (.slice va vn vc)).setCell ⟨w.heap.size, 1, none⟩ (.int .i64 D.ops)).setCell ⟨w.heap.size, 2, none⟩ (.slice fa m fc)).setCell ⟨w.heap.size, 3, none⟩ (.bool D.down)).setCell ⟨w.heap.size, 4, none⟩ (.int .i64 seq))) := by
    have on : ∀ (W : World) (i : Nat) (v : Value), Own W g mb c ys → Own (W.setCell ⟨w.heap.size, i, none⟩ v) g mb c ys := fun W i v h => Own.kept h (gr_setC W w.heap.size i v) (by omega)
    refine ⟨D, seq, va, vn, vc, fa, m, fc, qs, g, mb, c, ys, rfl, (((((nd4.set_below (by omega)).set_below (by omega)).set_below (by omega)).set_below (by omega)).set_below (by omega)).wider (by omega), hql, hok, hbt, hsq, hmb, on _ _ _ (on _ _ _ (on _ _ _ (on _ _ _ (on _ _ _ oy)))), hby, by omega, hgf, ?_⟩
    exact ((((B4.setCell (p := ⟨w.heap.size, 0, none⟩) (Nat.le_refl _) _).setCell (p := ⟨w.heap.size, 1, none⟩) (Nat.le_refl _) _).setCell (p := ⟨w.heap.size, 2, none⟩) (Nat.le_refl _) _).setCell (p := ⟨w.heap.size, 3, none⟩) (Nat.le_refl _) _).setCell (p := ⟨w.heap.size, 4, none⟩) (Nat.le_refl _) _
  obtain ⟨r0, r1, r2, r3, r4⟩ := zr.log
  have f0 := zr.frozen 0
  have f1 := zr.frozen 1
  have f2 := zr.frozen 2
  have f3 := zr.frozen 3
  have f4 := zr.frozen 4
  have zf := (((((zr.set 0 (.slice va vn vc)).set 1 (.int .i64 D.ops)).set 2 (.slice fa m fc)).set 3 (.bool D.down)).set 4 (.int .i64 seq))
  simp at zf
  obtain ⟨t0, t1, t2, t3, t4⟩ := zf.log
  clear zr zr2 B2 B4 s2 s4 g4 zf k4 hnd nd4 oy hgf hbt hok hsq
  go_wp2
  refine bodyPost_ret (v := .tuple #[.agg #[.slice va vn vc, .int .i64 D.ops, .slice fa m fc, .bool D.down, .int .i64 seq], .slice (some ⟨g, 0, none⟩) mb c]) (by simp [results, Tryz.f35, go_sem, t0, t1, t2, t3, t4]) rfl ?_
  rw [← HP.out]
  exact HQ.out
end

section
open Go.RowKit
/-- Behind Write's first statement: the log's copy in its box, the record in its own. -/
def WRR (w : World) (H : Nat) (c0 : Array Value) (D : DvD) (seq kind : Int) (ab : Option Addr) (lb cbb : Nat) (p q : Value) (W : World) : Prop :=
  ∃ (X Y : Nat) (a1 : Option Addr) (n1 c1 : Nat) (fa1 : Option Addr) (m1 fc1 : Nat) (qs : List BkR), p = .pointer (some ⟨X, 0, none⟩) ∧ q = .pointer (some ⟨Y, 0, none⟩) ∧
    Blk W X 55 #[.slice a1 n1 c1, .int .i64 D.ops, .slice fa1 m1 fc1, .bool D.down, .int .i64 seq] ∧ Blk W Y 61 #[.int .i64 kind, .int .i64 seq, .slice ab lb cbb] ∧ NewDv W (H + 1 + 1) a1 n1 c1 fa1 m1 fc1 D.ds D.fs qs ∧ qs.length = n1 ∧
    Blk W H 55 c0 ∧ Blk W (H + 1) 55 #[.slice none 0 0, .int .i64 0, .slice none 0 0, .bool false, .int .i64 0] ∧ Below w.heap.size w W ∧ H + 1 < X ∧ H + 1 < Y ∧ X ≠ Y
theorem wrr_of {w U WZ : World} {H X Y : Nat} {c0 : Array Value} {D : DvD} {seq kind : Int} {ab : Option Addr} {lb cbb : Nat} {a1 : Option Addr} {n1 c1 : Nat} {fa1 : Option Addr} {m1 fc1 : Nat} {qs : List BkR} (hH : w.heap.size = H) (hb : Below w.heap.size w U) (z0 : Blk U H 55 c0) (z1 : Blk U (H + 1) 55 #[.slice none 0 0, .int .i64 0, .slice none 0 0, .bool false, .int .i64 0])
    (h : Blk WZ X 55 #[.slice none 0 0, .int .i64 0, .slice none 0 0, .bool false, .int .i64 0] ∧ Blk WZ Y 61 #[.int .i64 0, .int .i64 0, .slice none 0 0] ∧ NewDv WZ (H + 1 + 1) a1 n1 c1 fa1 m1 fc1 D.ds D.fs qs ∧ qs.length = n1 ∧ Below U.heap.size U WZ ∧ X ∉ fpDv a1 n1 c1 fa1 m1 fc1 qs ∧ Y ∉ fpDv a1 n1 c1 fa1 m1 fc1 qs ∧ H + 1 < X ∧ H + 1 < Y ∧ X ≠ Y) :
    WRR w H c0 D seq kind ab lb cbb (.pointer (some ⟨X, 0, none⟩)) (.pointer (some ⟨Y, 0, none⟩)) (((((((((WZ.setCell ⟨X, 0, none⟩ (.slice a1 n1 c1)).setCell ⟨X, 1, none⟩ (.int .i64 D.ops)).setCell ⟨X, 2, none⟩ (.slice fa1 m1 fc1)).setCell ⟨X, 3, none⟩ (.bool D.down)).setCell ⟨X, 4, none⟩ (.int .i64 seq)).setCell ⟨Y, 0, none⟩ (.int .i64 kind)).setCell ⟨Y, 1, none⟩ (.int .i64 seq)).setCell ⟨Y, 2, none⟩ (.slice ab lb cbb))) := by
  obtain ⟨zX, zY, hN, hql, hB, hXn, hYn, hX2, hY2, hXY⟩ := h
  have zXa := ((((zX.set 0 (.slice a1 n1 c1)).set 1 (.int .i64 D.ops)).set 2 (.slice fa1 m1 fc1)).set 3 (.bool D.down)).set 4 (.int .i64 seq)
  have zYa := (((((zY.other (B' := X) hXY.symm 0 (.slice a1 n1 c1)).other (B' := X) hXY.symm 1 (.int .i64 D.ops)).other (B' := X) hXY.symm 2 (.slice fa1 m1 fc1)).other (B' := X) hXY.symm 3 (.bool D.down)).other (B' := X) hXY.symm 4 (.int .i64 seq))
  have k : ∀ (j : Nat) (t : TypeId) (vs : Array Value), j < H + 1 + 1 → Blk U j t vs → Blk (((((((((WZ.setCell ⟨X, 0, none⟩ (.slice a1 n1 c1)).setCell ⟨X, 1, none⟩ (.int .i64 D.ops)).setCell ⟨X, 2, none⟩ (.slice fa1 m1 fc1)).setCell ⟨X, 3, none⟩ (.bool D.down)).setCell ⟨X, 4, none⟩ (.int .i64 seq)).setCell ⟨Y, 0, none⟩ (.int .i64 kind)).setCell ⟨Y, 1, none⟩ (.int .i64 seq)).setCell ⟨Y, 2, none⟩ (.slice ab lb cbb))) j t vs := fun j t vs hj hz => (((((((((hz.keep hB).other (B' := X) (by omega) _ _).other (B' := X) (by omega) _ _).other (B' := X) (by omega) _ _).other (B' := X) (by omega) _ _).other (B' := X) (by omega) _ _).other (B' := Y) (by omega) _ _).other (B' := Y) (by omega) _ _).other (B' := Y) (by omega) _ _)
  have s : ∀ (W : World) (g i : Nat) (v : Value), H + 1 < g → Below w.heap.size w W → Below w.heap.size w (W.setCell ⟨g, i, none⟩ v) := fun W g i v hg hb => hb.setCell (p := ⟨g, i, none⟩) (by simp only; omega) v
  exact ⟨X, Y, a1, n1, c1, fa1, m1, fc1, qs, rfl, rfl, ((zXa.other (B' := Y) hXY 0 (.int .i64 kind)).other (B' := Y) hXY 1 (.int .i64 seq)).other (B' := Y) hXY 2 (.slice ab lb cbb), ((zYa.set 0 (.int .i64 kind)).set 1 (.int .i64 seq)).set 2 (.slice ab lb cbb), (((((((hN.setN hXn).setN hXn).setN hXn).setN hXn).setN hXn).setN hYn).setN hYn).setN hYn, hql, k H _ _ (by omega) z0, k (H + 1) _ _ (by omega) z1, s _ _ _ _ hY2 (s _ _ _ _ hY2 (s _ _ _ _ hY2 (s _ _ _ _ hX2 (s _ _ _ _ hX2 (s _ _ _ _ hX2 (s _ _ _ _ hX2 (s _ _ _ _ hX2 (hb.trans (hB.mono hb.size))))))))), hX2, hY2, hXY⟩
set_option maxRecDepth 100000 in
set_option maxHeartbeats 8000000 in
theorem writeI (a : Option Addr) (n cap : Nat) (bs : List BkR) (ops : Int) (fa : Option Addr) (m fc : Nat) (fs : List FtD) (down : Bool) (seq kind : Int) (body : List Int) (ab : Option Addr) (lb cbb : Nat) (spare : Int) (w : World) (ht : CR w a n bs) (hf : FR w fa m fs) (hbl : body.length = lb) (hlb : lb ≤ 1048576) (hrb : Rd w ab body) (hby : Byt body) (hE : EtCell w) :
    Calls Tryz.prog 30 #[.agg #[.slice a n cap, .int .i64 ops, .slice fa m fc, .bool down, .int .i64 seq], .int .i64 kind, .slice ab lb cbb, .int .i64 spare] w (LwA w w.heap.size ((wrOut (bs.map BkR.D) ops fs down seq kind body spare).D fs) ((wrOut (bs.map BkR.D) ops fs down seq kind body spare).sq seq) (wrOut (bs.map BkR.D) ops fs down seq kind body spare).adr (wrOut (bs.map BkR.D) ops fs down seq kind body spare).code) := by
  have B0 : Below w.heap.size w ((w.alloc (.cells #[.slice a n cap, .int .i64 ops, .slice fa m fc, .bool down, .int .i64 seq] 55)).alloc (.cells #[.slice none 0 0, .int .i64 0, .slice none 0 0, .bool false, .int .i64 0] 55)) := ((Below.refl _ w).alloc (Nat.le_refl _) _).alloc (by simp) _
  have z0 := (Blk.new w 55 #[.slice a n cap, .int .i64 ops, .slice fa m fc, .bool down, .int .i64 seq]).alloc (.cells #[.slice none 0 0, .int .i64 0, .slice none 0 0, .bool false, .int .i64 0] 55)
  have z1 := Blk.new (w.alloc (.cells #[.slice a n cap, .int .i64 ops, .slice fa m fc, .bool down, .int .i64 seq] 55)) 55 #[.slice none 0 0, .int .i64 0, .slice none 0 0, .bool false, .int .i64 0]
  simp only [World.size_alloc] at z1
  obtain ⟨W0, hW0⟩ : ∃ W, (w.alloc (.cells #[.slice a n cap, .int .i64 ops, .slice fa m fc, .bool down, .int .i64 seq] 55)).alloc (.cells #[.slice none 0 0, .int .i64 0, .slice none 0 0, .bool false, .int .i64 0] 55) = W := ⟨_, rfl⟩
  have hs0 : W0.heap.size = w.heap.size + 1 + 1 := by rw [← hW0]; simp
  rw [hW0] at B0 z0 z1
  have hC := fun (W : World) (h : Below W0.drew.heap.size W0.drew W) => copyLogI a n cap bs ops fa m fc fs down seq W (ht.keep (B0.drew.trans (h.mono B0.drew.size))) (hf.keep (B0.drew.trans (h.mono B0.drew.size)))
  have hln : (bs.map BkR.D).length = n := by simp [ht.len]
  have HDV : Hid (∀ W : World, Below w.heap.size w W → Calls Tryz.prog 17 #[.agg #[.slice a n cap, .int .i64 ops, .slice fa m fc, .bool down]] W fun e w' => e = .returned (.bool (devB (bs.map BkR.D) ops fs)) ∧ Below W.heap.size W w') := fun W hW => devOkI a n cap bs ops fa m fc fs down W (ht.keep hW) (hf.keep hW)
  have hro := fun (W : World) => recOkI ⟨kind, seq, body⟩ ab cbb W (by dsimp only; omega)
  unfold recC at hro
  dsimp only at hro
  rw [hbl] at hro
  have HRB : Hid (∀ W : World, Below w.heap.size w W → Rd W ab body ∧ EtCell W) := fun W hW => ⟨hrb.keep hW, hE.keep hW⟩
  have hfm := hf.tot
  generalize hGP : LwA w w.heap.size ((wrOut (bs.map BkR.D) ops fs down seq kind body spare).D fs) ((wrOut (bs.map BkR.D) ops fs down seq kind body spare).sq seq) (wrOut (bs.map BkR.D) ops fs down seq kind body spare).adr (wrOut (bs.map BkR.D) ops fs down seq kind body spare).code = P
  obtain ⟨R, hR⟩ : ∃ R, wrOut (bs.map BkR.D) ops fs down seq kind body spare = R := ⟨_, rfl⟩
  rw [hR] at hGP
  have HGP : Hid _ := hGP
  obtain ⟨H, hH⟩ : ∃ H, w.heap.size = H := ⟨_, rfl⟩
  have HH : Hid (w.heap.size = H) := hH
  rw [hH] at z0 z1 hs0
  have HS0 : Hid (W0.heap.size = H + 1 + 1) := hs0
  generalize hds : bs.map BkR.D = ds at hC hln HDV hR
  have HB0 : Hid (Below w.heap.size w W0.drew) := B0.drew
  have HZ0 : Hid (Blk W0.drew H 55 #[.slice a n cap, .int .i64 ops, .slice fa m fc, .bool down, .int .i64 seq]) := z0.keep (Below.refl _ _).drew
  have HZ1 : Hid (Blk W0.drew (H + 1) 55 #[.slice none 0 0, .int .i64 0, .slice none 0 0, .bool false, .int .i64 0]) := z1.keep (Below.refl _ _).drew
  have HFL : Hid (fs.length = m) := hf.len
  have hall : Hid (∀ W : World, Below W0.drew.heap.size W0.drew W → W.cell? ⟨H, 0, none⟩ = some (.slice a n cap) ∧ W.cell? ⟨H, 1, none⟩ = some (.int .i64 ops) ∧ W.cell? ⟨H, 2, none⟩ = some (.slice fa m fc) ∧ W.cell? ⟨H, 3, none⟩ = some (.bool down) ∧ W.cell? ⟨H, 4, none⟩ = some (.int .i64 seq)) := fun W hW => (Blk.keep HZ0.out hW).log
  have HBA : Hid (Below W0.drew.heap.size W0.drew (W0.alloc (.cells #[.slice none 0 0, .int .i64 0, .slice none 0 0, .bool false, .int .i64 0] 55)).drew) := (Below.refl _ W0.drew).alloc (Nat.le_refl _) _
  have HBR : Hid (Below W0.drew.heap.size W0.drew (W0.alloc (.cells #[.int .i64 0, .int .i64 0, .slice none 0 0] 61)).drew) := (Below.refl _ W0.drew).alloc (Nat.le_refl _) _
  have HBAR : Hid (Below W0.drew.heap.size W0.drew ((W0.alloc (.cells #[.slice none 0 0, .int .i64 0, .slice none 0 0, .bool false, .int .i64 0] 55)).alloc (.cells #[.int .i64 0, .int .i64 0, .slice none 0 0] 61)).drew) := HBA.out.alloc HBA.out.size _
  have HBRA : Hid (Below W0.drew.heap.size W0.drew ((W0.alloc (.cells #[.int .i64 0, .int .i64 0, .slice none 0 0] 61)).alloc (.cells #[.slice none 0 0, .int .i64 0, .slice none 0 0, .bool false, .int .i64 0] 55)).drew) := HBR.out.alloc HBR.out.size _
  have hc0 := hC W0.drew (Below.refl _ _)
  have hcA := hC _ HBA.out
  have hcR := hC _ HBR.out
  have hcAR := hC _ HBAR.out
  have hcRA := hC _ HBRA.out
  obtain ⟨s0, s1, s2, s3, s4⟩ := hall.out W0.drew (Below.refl _ _)
  clear ht hf hrb hE B0 z0 z1 hGP hds hs0 hC
  go_enter Tryz.func30, Tryz.ntmps30
  go_upto_region 1 with fail
  try rw [hW0]
  try rw [hH]
  clear hW0
  go_cut [11, 12] from 13 to 46 (fun p q wx => WRR w H #[.slice a n cap, .int .i64 ops, .slice fa m fc, .bool down, .int .i64 seq] ⟨ds, ops, fs, down⟩ seq kind ab lb cbb p q wx)
  case first =>
    refine wp_region_noPanic ?_
    refine wp_region_last (fun W : World => W.cell? ⟨H, 0, none⟩ = some (.slice a n cap) ∧ W.cell? ⟨H, 1, none⟩ = some (.int .i64 ops) ∧ W.cell? ⟨H, 2, none⟩ = some (.slice fa m fc) ∧ W.cell? ⟨H, 3, none⟩ = some (.bool down) ∧ W.cell? ⟨H, 4, none⟩ = some (.int .i64 seq)) 10 (by kernel_rfl) (by kernel_rfl) (by go_keep) 10 (by kernel_rfl) (fun hS => ?_)
    refine wpAnyH_take (i := 0) (v := ?gv1) rfl (by kernel_rfl) (by kernel_rfl) (by kernel_rfl) (fun _ _ _ h => h) (Or.inl ⟨by kernel_rfl, ?gy1⟩) (by assumption) ?gr1
    case gy1 => (intro w' hSw; (try dsimp only at hSw); go_simp; (try with_reducible rfl))
    try simp only [Act.put, List.setIfInBounds_toArray, List.set_cons_zero, List.set_cons_succ, List.getElem_toArray, List.getElem_cons_zero]
    refine wpAnyH_take (i := 2) (v := ?gv2) rfl (by kernel_rfl) (by kernel_rfl) (by kernel_rfl) (fun _ _ _ h => h) (Or.inl ⟨by kernel_rfl, ?gy2⟩) (by assumption) ?gr2
    case gy2 => (intro w' hSw; (try dsimp only at hSw); go_simp; (try with_reducible rfl))
    try simp only [Act.put, List.setIfInBounds_toArray, List.set_cons_zero, List.set_cons_succ, List.getElem_toArray, List.getElem_cons_succ, List.getElem_cons_zero]
    refine wpAnyH_take (i := 3) (v := ?gv3) rfl (by kernel_rfl) (by kernel_rfl) (by kernel_rfl) (fun _ _ _ h => h) (Or.inl ⟨by kernel_rfl, ?gy3⟩) (by assumption) ?gr3
    case gy3 => (intro w' hSw; (try dsimp only at hSw); go_simp; (try with_reducible rfl))
    try simp only [Act.put, List.setIfInBounds_toArray, List.set_cons_zero, List.set_cons_succ, List.getElem_toArray, List.getElem_cons_succ, List.getElem_cons_zero]
    refine wpAnyH_take (i := 4) (v := ?gv4) rfl (by kernel_rfl) (by kernel_rfl) (by kernel_rfl) (fun _ _ _ h => h) (Or.inl ⟨by kernel_rfl, ?gy4⟩) (by assumption) ?gr4
    case gy4 => (intro w' hSw; (try dsimp only at hSw); go_simp; (try with_reducible rfl))
    try simp only [Act.put, List.setIfInBounds_toArray, List.set_cons_zero, List.set_cons_succ, List.getElem_toArray, List.getElem_cons_succ, List.getElem_cons_zero]
    refine wpAnyH_take (i := 5) (v := ?gv5) rfl (by kernel_rfl) (by kernel_rfl) (by kernel_rfl) (fun _ _ _ h => h) (Or.inl ⟨by kernel_rfl, ?gy5⟩) (by assumption) ?gr5
    case gy5 => (intro w' hSw; (try dsimp only at hSw); go_simp; (try with_reducible rfl))
    try simp only [Act.put, List.setIfInBounds_toArray, List.set_cons_zero, List.set_cons_succ, List.getElem_toArray, List.getElem_cons_succ, List.getElem_cons_zero]
    refine wpAnyH_take (i := 6) (v := ?gv6) rfl (by kernel_rfl) (by kernel_rfl) (by kernel_rfl) (fun _ _ _ h => h) (Or.inl ⟨by kernel_rfl, ?gy6⟩) (by assumption) ?gr6
    case gy6 => (intro w' hSw; (try dsimp only at hSw); go_simp; (try with_reducible rfl))
    try simp only [Act.put, List.setIfInBounds_toArray, List.set_cons_zero, List.set_cons_succ, List.getElem_toArray, List.getElem_cons_succ, List.getElem_cons_zero]
    refine wpAnyH_ready (rs := [1, 7, 8]) (by kernel_rfl) (by simp) ?_
    refine AllReadyH.cons rfl (fun K hK => ?_) (AllReadyH.cons rfl (fun K hK => ?_) (AllReadyH.cons rfl (fun K hK => ?_) AllReadyH.nil))
    go_simp
    (with_reducible refine hc0.mono ?_)
    rintro e W9 ⟨a1, n1, c1, fa1, m1, fc1, qs, rfl, hq, hql, b9⟩
    have HND : Hid (NewDv W9 (H + 1 + 1) a1 n1 c1 fa1 m1 fc1 ds fs qs ∧ qs.length = n1 ∧ Below W0.drew.heap.size W0.drew W9 ∧ (∀ g ∈ fpDv a1 n1 c1 fa1 m1 fc1 qs, g < W9.heap.size)) := ⟨hq.wider (by have := HS0.out; simp; omega), hql, (Below.refl W0.drew.heap.size W0.drew).trans (b9.mono (Below.refl W0.drew.heap.size W0.drew).size), hq.lt⟩
    skip
    clear hq hql b9
    dsimp only
    clear hS
    try dsimp only
    refine Shut.out hK _ _ (hall.out W9 HND.out.2.2.1) (fun hS => ?_)
    try simp only [Act.put, List.setIfInBounds_toArray, List.set_cons_zero, List.set_cons_succ, List.getElem_toArray, List.getElem_cons_succ, List.getElem_cons_zero]
    refine wpAnyH_ready (rs := [7, 8]) (by kernel_rfl) (by simp) ?_
    refine AllReadyH.cons rfl (fun K hK => ?_) (AllReadyH.cons rfl (fun K hK => ?_) AllReadyH.nil)
    go_simp
    clear hS
    try dsimp only
    refine Shut.out hK _ _ (hall.out _ (HND.out.2.2.1.alloc HND.out.2.2.1.size _)) (fun hS => ?_)
    try simp only [Act.put, List.setIfInBounds_toArray, List.set_cons_zero, List.set_cons_succ, List.getElem_toArray, List.getElem_cons_succ, List.getElem_cons_zero]
    refine wpAnyH_ready (rs := [8]) (by kernel_rfl) (by simp) ?_
    refine AllReadyH.cons rfl (fun K hK => ?_) AllReadyH.nil
    go_simp
    clear hS
    try dsimp only
    refine Shut.out hK _ _ (hall.out _ (Below.alloc (HND.out.2.2.1.alloc HND.out.2.2.1.size _) (by have := HND.out.2.2.1.size; simp only [World.size_alloc]; omega) _)) (fun hS => ?_)
    try simp only [Act.put, List.setIfInBounds_toArray, List.set_cons_zero, List.set_cons_succ, List.getElem_toArray, List.getElem_cons_succ, List.getElem_cons_zero]
    refine wpAnyH_ready (rs := [9]) (by kernel_rfl) (by simp) ?_
    refine AllReadyH.cons rfl (fun K hK => ?_) AllReadyH.nil
    obtain ⟨WZ, hWZ⟩ : ∃ W, (W9.alloc (.cells #[.slice none 0 0, .int .i64 0, .slice none 0 0, .bool false, .int .i64 0] 55)).alloc (.cells #[.int .i64 0, .int .i64 0, .slice none 0 0] 61) = W := ⟨_, rfl⟩
    have hbz : Below W9.heap.size W9 WZ := (by rw [← hWZ]; first | exact Below.refl _ _ | exact (Below.refl _ _).alloc (Nat.le_refl _) _ | exact ((Below.refl _ _).alloc (Nat.le_refl _) _).alloc (by simp) _)
    obtain ⟨X, hXe⟩ : ∃ X, W9.heap.size = X := ⟨_, rfl⟩
    obtain ⟨Y, hYe⟩ : ∃ Y, W9.heap.size + 1 = Y := ⟨_, rfl⟩
    have zX : Blk WZ X 55 #[.slice none 0 0, .int .i64 0, .slice none 0 0, .bool false, .int .i64 0] := (by rw [← hXe, ← hWZ]; exact (Blk.new W9 55 #[.slice none 0 0, .int .i64 0, .slice none 0 0, .bool false, .int .i64 0]).alloc _)
    have zY : Blk WZ Y 61 #[.int .i64 0, .int .i64 0, .slice none 0 0] := (by rw [← hYe, ← hWZ]; (have h := Blk.new (W9.alloc (.cells #[.slice none 0 0, .int .i64 0, .slice none 0 0, .bool false, .int .i64 0] 55)) 61 #[.int .i64 0, .int .i64 0, .slice none 0 0]; simp only [World.size_alloc] at h; exact h))
    have hXn : X ∉ fpDv a1 n1 c1 fa1 m1 fc1 qs := (by rw [← hXe]; exact (fun h => by have := HND.out.2.2.2 _ h; omega))
    have hYn : Y ∉ fpDv a1 n1 c1 fa1 m1 fc1 qs := (by rw [← hYe]; exact (fun h => by have := HND.out.2.2.2 _ h; omega))
    have hX2 : H + 1 < X := (by have := HS0.out; have := HND.out.2.2.1.size; simp at this; omega)
    have hY2 : H + 1 < Y := (by have := HS0.out; have := HND.out.2.2.1.size; simp at this; omega)
    have hXY : X ≠ Y := (by first | omega | (have := HX.out.2.2; omega) | (have := HY.out.2.2; omega))
    try rw [hWZ]
    (try rw [HS0.out])
    (try rw [hYe])
    (try rw [hXe])
    have hN9 := HND.out.1.keep hbz
    have hB9 := HND.out.2.2.1.trans (hbz.mono HND.out.2.2.1.size)
    obtain ⟨r0, r1, r2, r3, r4⟩ := zX.log
    have g0 := zX.frozen 0
    have g1 := zX.frozen 1
    have g2 := zX.frozen 2
    have g3 := zX.frozen 3
    have g4 := zX.frozen 4
    have zY5 := ((((zY.other (B' := X) hXY.symm 0 (.slice a1 n1 c1)).other (B' := X) hXY.symm 1 (.int .i64 ops)).other (B' := X) hXY.symm 2 (.slice fa1 m1 fc1)).other (B' := X) hXY.symm 3 (.bool down)).other (B' := X) hXY.symm 4 (.int .i64 seq)
    obtain ⟨y0, y1, y2⟩ := zY5.thr
    have k0 := zY5.frozen 0
    have k1 := zY5.frozen 1
    have k2 := zY5.frozen 2
    have HFIN : Hid (Blk WZ X 55 #[.slice none 0 0, .int .i64 0, .slice none 0 0, .bool false, .int .i64 0] ∧ Blk WZ Y 61 #[.int .i64 0, .int .i64 0, .slice none 0 0] ∧ NewDv WZ (H + 1 + 1) a1 n1 c1 fa1 m1 fc1 ds fs qs ∧ qs.length = n1 ∧ Below W0.drew.heap.size W0.drew WZ ∧ X ∉ fpDv a1 n1 c1 fa1 m1 fc1 qs ∧ Y ∉ fpDv a1 n1 c1 fa1 m1 fc1 qs ∧ H + 1 < X ∧ H + 1 < Y ∧ X ≠ Y) := ⟨zX, zY, hN9, HND.out.2.1, hB9, hXn, hYn, hX2, hY2, hXY⟩
    clear zX zY zY5 hN9 hB9 hXn hYn hbz hXe hYe
    go_simp
    clear hS
    try dsimp only
    refine Shut.out hK _ _ (((((((HZ0.out.keep HFIN.out.2.2.2.2.1).other (B' := X) (by omega) 0 (.slice a1 n1 c1)).other (B' := X) (by omega) 1 (.int .i64 ops)).other (B' := X) (by omega) 2 (.slice fa1 m1 fc1)).other (B' := X) (by omega) 3 (.bool down)).other (B' := X) (by omega) 4 (.int .i64 seq)).log) (fun hS => ?_)
    try simp only [Act.put, List.setIfInBounds_toArray, List.set_cons_zero, List.set_cons_succ, List.getElem_toArray, List.getElem_cons_succ, List.getElem_cons_zero]
    refine wpAnyH_done (by kernel_rfl) ?_ _
    refine wpOp_last rfl (fun K hK => ?_)
    clear hS
    go_simp
    refine Shut.out hK _ _ (NoPanic.normal ?_)
    rotate_left 1
    go_simp
    clear hS
    try dsimp only
    refine Shut.out hK _ _ (hall.out _ (HND.out.2.2.1.alloc HND.out.2.2.1.size _)) (fun hS => ?_)
    try simp only [Act.put, List.setIfInBounds_toArray, List.set_cons_zero, List.set_cons_succ, List.getElem_toArray, List.getElem_cons_succ, List.getElem_cons_zero]
    refine wpAnyH_ready (rs := [7]) (by kernel_rfl) (by simp) ?_
    refine AllReadyH.cons rfl (fun K hK => ?_) AllReadyH.nil
    go_simp
    clear hS
    try dsimp only
    refine Shut.out hK _ _ (hall.out _ (Below.alloc (HND.out.2.2.1.alloc HND.out.2.2.1.size _) (by have := HND.out.2.2.1.size; simp only [World.size_alloc]; omega) _)) (fun hS => ?_)
    try simp only [Act.put, List.setIfInBounds_toArray, List.set_cons_zero, List.set_cons_succ, List.getElem_toArray, List.getElem_cons_succ, List.getElem_cons_zero]
    refine wpAnyH_ready (rs := [9]) (by kernel_rfl) (by simp) ?_
    refine AllReadyH.cons rfl (fun K hK => ?_) AllReadyH.nil
    obtain ⟨WZ, hWZ⟩ : ∃ W, (W9.alloc (.cells #[.int .i64 0, .int .i64 0, .slice none 0 0] 61)).alloc (.cells #[.slice none 0 0, .int .i64 0, .slice none 0 0, .bool false, .int .i64 0] 55) = W := ⟨_, rfl⟩
    have hbz : Below W9.heap.size W9 WZ := (by rw [← hWZ]; first | exact Below.refl _ _ | exact (Below.refl _ _).alloc (Nat.le_refl _) _ | exact ((Below.refl _ _).alloc (Nat.le_refl _) _).alloc (by simp) _)
    obtain ⟨X, hXe⟩ : ∃ X, W9.heap.size + 1 = X := ⟨_, rfl⟩
    obtain ⟨Y, hYe⟩ : ∃ Y, W9.heap.size = Y := ⟨_, rfl⟩
    have zX : Blk WZ X 55 #[.slice none 0 0, .int .i64 0, .slice none 0 0, .bool false, .int .i64 0] := (by rw [← hXe, ← hWZ]; (have h := Blk.new (W9.alloc (.cells #[.int .i64 0, .int .i64 0, .slice none 0 0] 61)) 55 #[.slice none 0 0, .int .i64 0, .slice none 0 0, .bool false, .int .i64 0]; simp only [World.size_alloc] at h; exact h))
    have zY : Blk WZ Y 61 #[.int .i64 0, .int .i64 0, .slice none 0 0] := (by rw [← hYe, ← hWZ]; exact (Blk.new W9 61 #[.int .i64 0, .int .i64 0, .slice none 0 0]).alloc _)
    have hXn : X ∉ fpDv a1 n1 c1 fa1 m1 fc1 qs := (by rw [← hXe]; exact (fun h => by have := HND.out.2.2.2 _ h; omega))
    have hYn : Y ∉ fpDv a1 n1 c1 fa1 m1 fc1 qs := (by rw [← hYe]; exact (fun h => by have := HND.out.2.2.2 _ h; omega))
    have hX2 : H + 1 < X := (by have := HS0.out; have := HND.out.2.2.1.size; simp at this; omega)
    have hY2 : H + 1 < Y := (by have := HS0.out; have := HND.out.2.2.1.size; simp at this; omega)
    have hXY : X ≠ Y := (by first | omega | (have := HX.out.2.2; omega) | (have := HY.out.2.2; omega))
    try rw [hWZ]
    (try rw [HS0.out])
    (try rw [hXe])
    (try rw [hYe])
    have hN9 := HND.out.1.keep hbz
    have hB9 := HND.out.2.2.1.trans (hbz.mono HND.out.2.2.1.size)
    obtain ⟨r0, r1, r2, r3, r4⟩ := zX.log
    have g0 := zX.frozen 0
    have g1 := zX.frozen 1
    have g2 := zX.frozen 2
    have g3 := zX.frozen 3
    have g4 := zX.frozen 4
    have zY5 := ((((zY.other (B' := X) hXY.symm 0 (.slice a1 n1 c1)).other (B' := X) hXY.symm 1 (.int .i64 ops)).other (B' := X) hXY.symm 2 (.slice fa1 m1 fc1)).other (B' := X) hXY.symm 3 (.bool down)).other (B' := X) hXY.symm 4 (.int .i64 seq)
    obtain ⟨y0, y1, y2⟩ := zY5.thr
    have k0 := zY5.frozen 0
    have k1 := zY5.frozen 1
    have k2 := zY5.frozen 2
    have HFIN : Hid (Blk WZ X 55 #[.slice none 0 0, .int .i64 0, .slice none 0 0, .bool false, .int .i64 0] ∧ Blk WZ Y 61 #[.int .i64 0, .int .i64 0, .slice none 0 0] ∧ NewDv WZ (H + 1 + 1) a1 n1 c1 fa1 m1 fc1 ds fs qs ∧ qs.length = n1 ∧ Below W0.drew.heap.size W0.drew WZ ∧ X ∉ fpDv a1 n1 c1 fa1 m1 fc1 qs ∧ Y ∉ fpDv a1 n1 c1 fa1 m1 fc1 qs ∧ H + 1 < X ∧ H + 1 < Y ∧ X ≠ Y) := ⟨zX, zY, hN9, HND.out.2.1, hB9, hXn, hYn, hX2, hY2, hXY⟩
    clear zX zY zY5 hN9 hB9 hXn hYn hbz hXe hYe
    go_simp
    clear hS
    try dsimp only
    refine Shut.out hK _ _ (((((((HZ0.out.keep HFIN.out.2.2.2.2.1).other (B' := X) (by omega) 0 (.slice a1 n1 c1)).other (B' := X) (by omega) 1 (.int .i64 ops)).other (B' := X) (by omega) 2 (.slice fa1 m1 fc1)).other (B' := X) (by omega) 3 (.bool down)).other (B' := X) (by omega) 4 (.int .i64 seq)).log) (fun hS => ?_)
    try simp only [Act.put, List.setIfInBounds_toArray, List.set_cons_zero, List.set_cons_succ, List.getElem_toArray, List.getElem_cons_succ, List.getElem_cons_zero]
    refine wpAnyH_done (by kernel_rfl) ?_ _
    refine wpOp_last rfl (fun K hK => ?_)
    clear hS
    go_simp
    refine Shut.out hK _ _ (NoPanic.normal ?_)
    rotate_left 1
    go_simp
    clear hS
    try dsimp only
    refine Shut.out hK _ _ (hall.out _ HBA.out) (fun hS => ?_)
    try simp only [Act.put, List.setIfInBounds_toArray, List.set_cons_zero, List.set_cons_succ, List.getElem_toArray, List.getElem_cons_succ, List.getElem_cons_zero]
    refine wpAnyH_ready (rs := [1, 8]) (by kernel_rfl) (by simp) ?_
    refine AllReadyH.cons rfl (fun K hK => ?_) (AllReadyH.cons rfl (fun K hK => ?_) AllReadyH.nil)
    go_simp
    (with_reducible refine hcA.mono ?_)
    rintro e W9 ⟨a1, n1, c1, fa1, m1, fc1, qs, rfl, hq, hql, b9⟩
    have HND : Hid (NewDv W9 (H + 1 + 1) a1 n1 c1 fa1 m1 fc1 ds fs qs ∧ qs.length = n1 ∧ Below W0.drew.heap.size W0.drew W9 ∧ (∀ g ∈ fpDv a1 n1 c1 fa1 m1 fc1 qs, g < W9.heap.size)) := ⟨hq.wider (by have := HS0.out; simp; omega), hql, HBA.out.trans (b9.mono HBA.out.size), hq.lt⟩
    have HX : Hid (Blk W9 (H + 1 + 1) 55 #[.slice none 0 0, .int .i64 0, .slice none 0 0, .bool false, .int .i64 0] ∧ H + 1 + 1 ∉ fpDv a1 n1 c1 fa1 m1 fc1 qs ∧ H + 1 + 1 < W9.heap.size) := (by have h0 := Blk.new W0 55 #[.slice none 0 0, .int .i64 0, .slice none 0 0, .bool false, .int .i64 0]; (try simp only [World.size_alloc] at h0); rw [HS0.out] at h0; have h1 := Blk.keep (Blk.keep h0 (Below.refl _ _).drew) b9; exact ⟨h1, fun h => by (have h2 := hq.from _ h; have h3 := HS0.out; simp at h2; omega), h1.lt⟩)
    clear hq hql b9
    dsimp only
    clear hS
    try dsimp only
    refine Shut.out hK _ _ (hall.out W9 HND.out.2.2.1) (fun hS => ?_)
    try simp only [Act.put, List.setIfInBounds_toArray, List.set_cons_zero, List.set_cons_succ, List.getElem_toArray, List.getElem_cons_succ, List.getElem_cons_zero]
    refine wpAnyH_ready (rs := [8]) (by kernel_rfl) (by simp) ?_
    refine AllReadyH.cons rfl (fun K hK => ?_) AllReadyH.nil
    go_simp
    clear hS
    try dsimp only
    refine Shut.out hK _ _ (hall.out _ (HND.out.2.2.1.alloc HND.out.2.2.1.size _)) (fun hS => ?_)
    try simp only [Act.put, List.setIfInBounds_toArray, List.set_cons_zero, List.set_cons_succ, List.getElem_toArray, List.getElem_cons_succ, List.getElem_cons_zero]
    refine wpAnyH_ready (rs := [9]) (by kernel_rfl) (by simp) ?_
    refine AllReadyH.cons rfl (fun K hK => ?_) AllReadyH.nil
    obtain ⟨WZ, hWZ⟩ : ∃ W, W9.alloc (.cells #[.int .i64 0, .int .i64 0, .slice none 0 0] 61) = W := ⟨_, rfl⟩
    have hbz : Below W9.heap.size W9 WZ := (by rw [← hWZ]; first | exact Below.refl _ _ | exact (Below.refl _ _).alloc (Nat.le_refl _) _ | exact ((Below.refl _ _).alloc (Nat.le_refl _) _).alloc (by simp) _)
    obtain ⟨X, hXe⟩ : ∃ X, H + 1 + 1 = X := ⟨_, rfl⟩
    obtain ⟨Y, hYe⟩ : ∃ Y, W9.heap.size = Y := ⟨_, rfl⟩
    have zX : Blk WZ X 55 #[.slice none 0 0, .int .i64 0, .slice none 0 0, .bool false, .int .i64 0] := (by rw [← hXe, ← hWZ]; exact HX.out.1.alloc _)
    have zY : Blk WZ Y 61 #[.int .i64 0, .int .i64 0, .slice none 0 0] := (by rw [← hYe, ← hWZ]; exact Blk.new W9 61 #[.int .i64 0, .int .i64 0, .slice none 0 0])
    have hXn : X ∉ fpDv a1 n1 c1 fa1 m1 fc1 qs := (by rw [← hXe]; exact HX.out.2.1)
    have hYn : Y ∉ fpDv a1 n1 c1 fa1 m1 fc1 qs := (by rw [← hYe]; exact (fun h => by have := HND.out.2.2.2 _ h; omega))
    have hX2 : H + 1 < X := (by have := HS0.out; have := HND.out.2.2.1.size; simp at this; omega)
    have hY2 : H + 1 < Y := (by have := HS0.out; have := HND.out.2.2.1.size; simp at this; omega)
    have hXY : X ≠ Y := (by first | omega | (have := HX.out.2.2; omega) | (have := HY.out.2.2; omega))
    try rw [hWZ]
    (try rw [HS0.out])
    (try rw [hYe])
    (try rw [hXe])
    have hN9 := HND.out.1.keep hbz
    have hB9 := HND.out.2.2.1.trans (hbz.mono HND.out.2.2.1.size)
    obtain ⟨r0, r1, r2, r3, r4⟩ := zX.log
    have g0 := zX.frozen 0
    have g1 := zX.frozen 1
    have g2 := zX.frozen 2
    have g3 := zX.frozen 3
    have g4 := zX.frozen 4
    have zY5 := ((((zY.other (B' := X) hXY.symm 0 (.slice a1 n1 c1)).other (B' := X) hXY.symm 1 (.int .i64 ops)).other (B' := X) hXY.symm 2 (.slice fa1 m1 fc1)).other (B' := X) hXY.symm 3 (.bool down)).other (B' := X) hXY.symm 4 (.int .i64 seq)
    obtain ⟨y0, y1, y2⟩ := zY5.thr
    have k0 := zY5.frozen 0
    have k1 := zY5.frozen 1
    have k2 := zY5.frozen 2
    have HFIN : Hid (Blk WZ X 55 #[.slice none 0 0, .int .i64 0, .slice none 0 0, .bool false, .int .i64 0] ∧ Blk WZ Y 61 #[.int .i64 0, .int .i64 0, .slice none 0 0] ∧ NewDv WZ (H + 1 + 1) a1 n1 c1 fa1 m1 fc1 ds fs qs ∧ qs.length = n1 ∧ Below W0.drew.heap.size W0.drew WZ ∧ X ∉ fpDv a1 n1 c1 fa1 m1 fc1 qs ∧ Y ∉ fpDv a1 n1 c1 fa1 m1 fc1 qs ∧ H + 1 < X ∧ H + 1 < Y ∧ X ≠ Y) := ⟨zX, zY, hN9, HND.out.2.1, hB9, hXn, hYn, hX2, hY2, hXY⟩
    clear zX zY zY5 hN9 hB9 hXn hYn hbz hXe hYe
    go_simp
    clear hS
    try dsimp only
    refine Shut.out hK _ _ (((((((HZ0.out.keep HFIN.out.2.2.2.2.1).other (B' := X) (by omega) 0 (.slice a1 n1 c1)).other (B' := X) (by omega) 1 (.int .i64 ops)).other (B' := X) (by omega) 2 (.slice fa1 m1 fc1)).other (B' := X) (by omega) 3 (.bool down)).other (B' := X) (by omega) 4 (.int .i64 seq)).log) (fun hS => ?_)
    try simp only [Act.put, List.setIfInBounds_toArray, List.set_cons_zero, List.set_cons_succ, List.getElem_toArray, List.getElem_cons_succ, List.getElem_cons_zero]
    refine wpAnyH_done (by kernel_rfl) ?_ _
    refine wpOp_last rfl (fun K hK => ?_)
    clear hS
    go_simp
    refine Shut.out hK _ _ (NoPanic.normal ?_)
    rotate_left 1
    go_simp
    clear hS
    try dsimp only
    refine Shut.out hK _ _ (hall.out _ HBAR.out) (fun hS => ?_)
    try simp only [Act.put, List.setIfInBounds_toArray, List.set_cons_zero, List.set_cons_succ, List.getElem_toArray, List.getElem_cons_succ, List.getElem_cons_zero]
    refine wpAnyH_ready (rs := [1]) (by kernel_rfl) (by simp) ?_
    refine AllReadyH.cons rfl (fun K hK => ?_) AllReadyH.nil
    go_simp
    (with_reducible refine hcAR.mono ?_)
    rintro e W9 ⟨a1, n1, c1, fa1, m1, fc1, qs, rfl, hq, hql, b9⟩
    have HND : Hid (NewDv W9 (H + 1 + 1) a1 n1 c1 fa1 m1 fc1 ds fs qs ∧ qs.length = n1 ∧ Below W0.drew.heap.size W0.drew W9 ∧ (∀ g ∈ fpDv a1 n1 c1 fa1 m1 fc1 qs, g < W9.heap.size)) := ⟨hq.wider (by have := HS0.out; simp; omega), hql, HBAR.out.trans (b9.mono HBAR.out.size), hq.lt⟩
    have HX : Hid (Blk W9 (H + 1 + 1) 55 #[.slice none 0 0, .int .i64 0, .slice none 0 0, .bool false, .int .i64 0] ∧ H + 1 + 1 ∉ fpDv a1 n1 c1 fa1 m1 fc1 qs ∧ H + 1 + 1 < W9.heap.size) := (by have h0 := (Blk.new W0 55 #[.slice none 0 0, .int .i64 0, .slice none 0 0, .bool false, .int .i64 0]).alloc (.cells #[.int .i64 0, .int .i64 0, .slice none 0 0] 61); (try simp only [World.size_alloc] at h0); rw [HS0.out] at h0; have h1 := Blk.keep (Blk.keep h0 (Below.refl _ _).drew) b9; exact ⟨h1, fun h => by (have h2 := hq.from _ h; have h3 := HS0.out; simp at h2; omega), h1.lt⟩)
    have HY : Hid (Blk W9 (H + 1 + 1 + 1) 61 #[.int .i64 0, .int .i64 0, .slice none 0 0] ∧ H + 1 + 1 + 1 ∉ fpDv a1 n1 c1 fa1 m1 fc1 qs ∧ H + 1 + 1 + 1 < W9.heap.size) := (by have h0 := Blk.new (W0.alloc (.cells #[.slice none 0 0, .int .i64 0, .slice none 0 0, .bool false, .int .i64 0] 55)) 61 #[.int .i64 0, .int .i64 0, .slice none 0 0]; (try simp only [World.size_alloc] at h0); rw [HS0.out] at h0; have h1 := Blk.keep (Blk.keep h0 (Below.refl _ _).drew) b9; exact ⟨h1, fun h => by (have h2 := hq.from _ h; have h3 := HS0.out; simp at h2; omega), h1.lt⟩)
    clear hq hql b9
    dsimp only
    clear hS
    try dsimp only
    refine Shut.out hK _ _ (hall.out W9 HND.out.2.2.1) (fun hS => ?_)
    try simp only [Act.put, List.setIfInBounds_toArray, List.set_cons_zero, List.set_cons_succ, List.getElem_toArray, List.getElem_cons_succ, List.getElem_cons_zero]
    refine wpAnyH_ready (rs := [9]) (by kernel_rfl) (by simp) ?_
    refine AllReadyH.cons rfl (fun K hK => ?_) AllReadyH.nil
    obtain ⟨WZ, hWZ⟩ : ∃ W, W9 = W := ⟨_, rfl⟩
    have hbz : Below W9.heap.size W9 WZ := (by rw [← hWZ]; first | exact Below.refl _ _ | exact (Below.refl _ _).alloc (Nat.le_refl _) _ | exact ((Below.refl _ _).alloc (Nat.le_refl _) _).alloc (by simp) _)
    obtain ⟨X, hXe⟩ : ∃ X, H + 1 + 1 = X := ⟨_, rfl⟩
    obtain ⟨Y, hYe⟩ : ∃ Y, H + 1 + 1 + 1 = Y := ⟨_, rfl⟩
    have zX : Blk WZ X 55 #[.slice none 0 0, .int .i64 0, .slice none 0 0, .bool false, .int .i64 0] := (by rw [← hXe, ← hWZ]; exact HX.out.1)
    have zY : Blk WZ Y 61 #[.int .i64 0, .int .i64 0, .slice none 0 0] := (by rw [← hYe, ← hWZ]; exact HY.out.1)
    have hXn : X ∉ fpDv a1 n1 c1 fa1 m1 fc1 qs := (by rw [← hXe]; exact HX.out.2.1)
    have hYn : Y ∉ fpDv a1 n1 c1 fa1 m1 fc1 qs := (by rw [← hYe]; exact HY.out.2.1)
    have hX2 : H + 1 < X := (by have := HS0.out; have := HND.out.2.2.1.size; simp at this; omega)
    have hY2 : H + 1 < Y := (by have := HS0.out; have := HND.out.2.2.1.size; simp at this; omega)
    have hXY : X ≠ Y := (by first | omega | (have := HX.out.2.2; omega) | (have := HY.out.2.2; omega))
    try rw [hWZ]
    (try rw [HS0.out])
    (try rw [hYe])
    (try rw [hXe])
    have hN9 := HND.out.1.keep hbz
    have hB9 := HND.out.2.2.1.trans (hbz.mono HND.out.2.2.1.size)
    obtain ⟨r0, r1, r2, r3, r4⟩ := zX.log
    have g0 := zX.frozen 0
    have g1 := zX.frozen 1
    have g2 := zX.frozen 2
    have g3 := zX.frozen 3
    have g4 := zX.frozen 4
    have zY5 := ((((zY.other (B' := X) hXY.symm 0 (.slice a1 n1 c1)).other (B' := X) hXY.symm 1 (.int .i64 ops)).other (B' := X) hXY.symm 2 (.slice fa1 m1 fc1)).other (B' := X) hXY.symm 3 (.bool down)).other (B' := X) hXY.symm 4 (.int .i64 seq)
    obtain ⟨y0, y1, y2⟩ := zY5.thr
    have k0 := zY5.frozen 0
    have k1 := zY5.frozen 1
    have k2 := zY5.frozen 2
    have HFIN : Hid (Blk WZ X 55 #[.slice none 0 0, .int .i64 0, .slice none 0 0, .bool false, .int .i64 0] ∧ Blk WZ Y 61 #[.int .i64 0, .int .i64 0, .slice none 0 0] ∧ NewDv WZ (H + 1 + 1) a1 n1 c1 fa1 m1 fc1 ds fs qs ∧ qs.length = n1 ∧ Below W0.drew.heap.size W0.drew WZ ∧ X ∉ fpDv a1 n1 c1 fa1 m1 fc1 qs ∧ Y ∉ fpDv a1 n1 c1 fa1 m1 fc1 qs ∧ H + 1 < X ∧ H + 1 < Y ∧ X ≠ Y) := ⟨zX, zY, hN9, HND.out.2.1, hB9, hXn, hYn, hX2, hY2, hXY⟩
    clear zX zY zY5 hN9 hB9 hXn hYn hbz hXe hYe
    go_simp
    clear hS
    try dsimp only
    refine Shut.out hK _ _ (((((((HZ0.out.keep HFIN.out.2.2.2.2.1).other (B' := X) (by omega) 0 (.slice a1 n1 c1)).other (B' := X) (by omega) 1 (.int .i64 ops)).other (B' := X) (by omega) 2 (.slice fa1 m1 fc1)).other (B' := X) (by omega) 3 (.bool down)).other (B' := X) (by omega) 4 (.int .i64 seq)).log) (fun hS => ?_)
    try simp only [Act.put, List.setIfInBounds_toArray, List.set_cons_zero, List.set_cons_succ, List.getElem_toArray, List.getElem_cons_succ, List.getElem_cons_zero]
    refine wpAnyH_done (by kernel_rfl) ?_ _
    refine wpOp_last rfl (fun K hK => ?_)
    clear hS
    go_simp
    refine Shut.out hK _ _ (NoPanic.normal ?_)
    rotate_left 1
    go_simp
    clear hS
    try dsimp only
    refine Shut.out hK _ _ (hall.out _ HBR.out) (fun hS => ?_)
    try simp only [Act.put, List.setIfInBounds_toArray, List.set_cons_zero, List.set_cons_succ, List.getElem_toArray, List.getElem_cons_succ, List.getElem_cons_zero]
    refine wpAnyH_ready (rs := [1, 7]) (by kernel_rfl) (by simp) ?_
    refine AllReadyH.cons rfl (fun K hK => ?_) (AllReadyH.cons rfl (fun K hK => ?_) AllReadyH.nil)
    go_simp
    (with_reducible refine hcR.mono ?_)
    rintro e W9 ⟨a1, n1, c1, fa1, m1, fc1, qs, rfl, hq, hql, b9⟩
    have HND : Hid (NewDv W9 (H + 1 + 1) a1 n1 c1 fa1 m1 fc1 ds fs qs ∧ qs.length = n1 ∧ Below W0.drew.heap.size W0.drew W9 ∧ (∀ g ∈ fpDv a1 n1 c1 fa1 m1 fc1 qs, g < W9.heap.size)) := ⟨hq.wider (by have := HS0.out; simp; omega), hql, HBR.out.trans (b9.mono HBR.out.size), hq.lt⟩
    have HY : Hid (Blk W9 (H + 1 + 1) 61 #[.int .i64 0, .int .i64 0, .slice none 0 0] ∧ H + 1 + 1 ∉ fpDv a1 n1 c1 fa1 m1 fc1 qs ∧ H + 1 + 1 < W9.heap.size) := (by have h0 := Blk.new W0 61 #[.int .i64 0, .int .i64 0, .slice none 0 0]; (try simp only [World.size_alloc] at h0); rw [HS0.out] at h0; have h1 := Blk.keep (Blk.keep h0 (Below.refl _ _).drew) b9; exact ⟨h1, fun h => by (have h2 := hq.from _ h; have h3 := HS0.out; simp at h2; omega), h1.lt⟩)
    clear hq hql b9
    dsimp only
    clear hS
    try dsimp only
    refine Shut.out hK _ _ (hall.out W9 HND.out.2.2.1) (fun hS => ?_)
    try simp only [Act.put, List.setIfInBounds_toArray, List.set_cons_zero, List.set_cons_succ, List.getElem_toArray, List.getElem_cons_succ, List.getElem_cons_zero]
    refine wpAnyH_ready (rs := [7]) (by kernel_rfl) (by simp) ?_
    refine AllReadyH.cons rfl (fun K hK => ?_) AllReadyH.nil
    go_simp
    clear hS
    try dsimp only
    refine Shut.out hK _ _ (hall.out _ (HND.out.2.2.1.alloc HND.out.2.2.1.size _)) (fun hS => ?_)
    try simp only [Act.put, List.setIfInBounds_toArray, List.set_cons_zero, List.set_cons_succ, List.getElem_toArray, List.getElem_cons_succ, List.getElem_cons_zero]
    refine wpAnyH_ready (rs := [9]) (by kernel_rfl) (by simp) ?_
    refine AllReadyH.cons rfl (fun K hK => ?_) AllReadyH.nil
    obtain ⟨WZ, hWZ⟩ : ∃ W, W9.alloc (.cells #[.slice none 0 0, .int .i64 0, .slice none 0 0, .bool false, .int .i64 0] 55) = W := ⟨_, rfl⟩
    have hbz : Below W9.heap.size W9 WZ := (by rw [← hWZ]; first | exact Below.refl _ _ | exact (Below.refl _ _).alloc (Nat.le_refl _) _ | exact ((Below.refl _ _).alloc (Nat.le_refl _) _).alloc (by simp) _)
    obtain ⟨X, hXe⟩ : ∃ X, W9.heap.size = X := ⟨_, rfl⟩
    obtain ⟨Y, hYe⟩ : ∃ Y, H + 1 + 1 = Y := ⟨_, rfl⟩
    have zX : Blk WZ X 55 #[.slice none 0 0, .int .i64 0, .slice none 0 0, .bool false, .int .i64 0] := (by rw [← hXe, ← hWZ]; exact Blk.new W9 55 #[.slice none 0 0, .int .i64 0, .slice none 0 0, .bool false, .int .i64 0])
    have zY : Blk WZ Y 61 #[.int .i64 0, .int .i64 0, .slice none 0 0] := (by rw [← hYe, ← hWZ]; exact HY.out.1.alloc _)
    have hXn : X ∉ fpDv a1 n1 c1 fa1 m1 fc1 qs := (by rw [← hXe]; exact (fun h => by have := HND.out.2.2.2 _ h; omega))
    have hYn : Y ∉ fpDv a1 n1 c1 fa1 m1 fc1 qs := (by rw [← hYe]; exact HY.out.2.1)
    have hX2 : H + 1 < X := (by have := HS0.out; have := HND.out.2.2.1.size; simp at this; omega)
    have hY2 : H + 1 < Y := (by have := HS0.out; have := HND.out.2.2.1.size; simp at this; omega)
    have hXY : X ≠ Y := (by first | omega | (have := HX.out.2.2; omega) | (have := HY.out.2.2; omega))
    try rw [hWZ]
    (try rw [HS0.out])
    (try rw [hXe])
    (try rw [hYe])
    have hN9 := HND.out.1.keep hbz
    have hB9 := HND.out.2.2.1.trans (hbz.mono HND.out.2.2.1.size)
    obtain ⟨r0, r1, r2, r3, r4⟩ := zX.log
    have g0 := zX.frozen 0
    have g1 := zX.frozen 1
    have g2 := zX.frozen 2
    have g3 := zX.frozen 3
    have g4 := zX.frozen 4
    have zY5 := ((((zY.other (B' := X) hXY.symm 0 (.slice a1 n1 c1)).other (B' := X) hXY.symm 1 (.int .i64 ops)).other (B' := X) hXY.symm 2 (.slice fa1 m1 fc1)).other (B' := X) hXY.symm 3 (.bool down)).other (B' := X) hXY.symm 4 (.int .i64 seq)
    obtain ⟨y0, y1, y2⟩ := zY5.thr
    have k0 := zY5.frozen 0
    have k1 := zY5.frozen 1
    have k2 := zY5.frozen 2
    have HFIN : Hid (Blk WZ X 55 #[.slice none 0 0, .int .i64 0, .slice none 0 0, .bool false, .int .i64 0] ∧ Blk WZ Y 61 #[.int .i64 0, .int .i64 0, .slice none 0 0] ∧ NewDv WZ (H + 1 + 1) a1 n1 c1 fa1 m1 fc1 ds fs qs ∧ qs.length = n1 ∧ Below W0.drew.heap.size W0.drew WZ ∧ X ∉ fpDv a1 n1 c1 fa1 m1 fc1 qs ∧ Y ∉ fpDv a1 n1 c1 fa1 m1 fc1 qs ∧ H + 1 < X ∧ H + 1 < Y ∧ X ≠ Y) := ⟨zX, zY, hN9, HND.out.2.1, hB9, hXn, hYn, hX2, hY2, hXY⟩
    clear zX zY zY5 hN9 hB9 hXn hYn hbz hXe hYe
    go_simp
    clear hS
    try dsimp only
    refine Shut.out hK _ _ (((((((HZ0.out.keep HFIN.out.2.2.2.2.1).other (B' := X) (by omega) 0 (.slice a1 n1 c1)).other (B' := X) (by omega) 1 (.int .i64 ops)).other (B' := X) (by omega) 2 (.slice fa1 m1 fc1)).other (B' := X) (by omega) 3 (.bool down)).other (B' := X) (by omega) 4 (.int .i64 seq)).log) (fun hS => ?_)
    try simp only [Act.put, List.setIfInBounds_toArray, List.set_cons_zero, List.set_cons_succ, List.getElem_toArray, List.getElem_cons_succ, List.getElem_cons_zero]
    refine wpAnyH_done (by kernel_rfl) ?_ _
    refine wpOp_last rfl (fun K hK => ?_)
    clear hS
    go_simp
    refine Shut.out hK _ _ (NoPanic.normal ?_)
    rotate_left 1
    go_simp
    clear hS
    try dsimp only
    refine Shut.out hK _ _ (hall.out _ HBRA.out) (fun hS => ?_)
    try simp only [Act.put, List.setIfInBounds_toArray, List.set_cons_zero, List.set_cons_succ, List.getElem_toArray, List.getElem_cons_succ, List.getElem_cons_zero]
    refine wpAnyH_ready (rs := [1]) (by kernel_rfl) (by simp) ?_
    refine AllReadyH.cons rfl (fun K hK => ?_) AllReadyH.nil
    go_simp
    (with_reducible refine hcRA.mono ?_)
    rintro e W9 ⟨a1, n1, c1, fa1, m1, fc1, qs, rfl, hq, hql, b9⟩
    have HND : Hid (NewDv W9 (H + 1 + 1) a1 n1 c1 fa1 m1 fc1 ds fs qs ∧ qs.length = n1 ∧ Below W0.drew.heap.size W0.drew W9 ∧ (∀ g ∈ fpDv a1 n1 c1 fa1 m1 fc1 qs, g < W9.heap.size)) := ⟨hq.wider (by have := HS0.out; simp; omega), hql, HBRA.out.trans (b9.mono HBRA.out.size), hq.lt⟩
    have HY : Hid (Blk W9 (H + 1 + 1) 61 #[.int .i64 0, .int .i64 0, .slice none 0 0] ∧ H + 1 + 1 ∉ fpDv a1 n1 c1 fa1 m1 fc1 qs ∧ H + 1 + 1 < W9.heap.size) := (by have h0 := (Blk.new W0 61 #[.int .i64 0, .int .i64 0, .slice none 0 0]).alloc (.cells #[.slice none 0 0, .int .i64 0, .slice none 0 0, .bool false, .int .i64 0] 55); (try simp only [World.size_alloc] at h0); rw [HS0.out] at h0; have h1 := Blk.keep (Blk.keep h0 (Below.refl _ _).drew) b9; exact ⟨h1, fun h => by (have h2 := hq.from _ h; have h3 := HS0.out; simp at h2; omega), h1.lt⟩)
    have HX : Hid (Blk W9 (H + 1 + 1 + 1) 55 #[.slice none 0 0, .int .i64 0, .slice none 0 0, .bool false, .int .i64 0] ∧ H + 1 + 1 + 1 ∉ fpDv a1 n1 c1 fa1 m1 fc1 qs ∧ H + 1 + 1 + 1 < W9.heap.size) := (by have h0 := Blk.new (W0.alloc (.cells #[.int .i64 0, .int .i64 0, .slice none 0 0] 61)) 55 #[.slice none 0 0, .int .i64 0, .slice none 0 0, .bool false, .int .i64 0]; (try simp only [World.size_alloc] at h0); rw [HS0.out] at h0; have h1 := Blk.keep (Blk.keep h0 (Below.refl _ _).drew) b9; exact ⟨h1, fun h => by (have h2 := hq.from _ h; have h3 := HS0.out; simp at h2; omega), h1.lt⟩)
    clear hq hql b9
    dsimp only
    clear hS
    try dsimp only
    refine Shut.out hK _ _ (hall.out W9 HND.out.2.2.1) (fun hS => ?_)
    try simp only [Act.put, List.setIfInBounds_toArray, List.set_cons_zero, List.set_cons_succ, List.getElem_toArray, List.getElem_cons_succ, List.getElem_cons_zero]
    refine wpAnyH_ready (rs := [9]) (by kernel_rfl) (by simp) ?_
    refine AllReadyH.cons rfl (fun K hK => ?_) AllReadyH.nil
    obtain ⟨WZ, hWZ⟩ : ∃ W, W9 = W := ⟨_, rfl⟩
    have hbz : Below W9.heap.size W9 WZ := (by rw [← hWZ]; first | exact Below.refl _ _ | exact (Below.refl _ _).alloc (Nat.le_refl _) _ | exact ((Below.refl _ _).alloc (Nat.le_refl _) _).alloc (by simp) _)
    obtain ⟨X, hXe⟩ : ∃ X, H + 1 + 1 + 1 = X := ⟨_, rfl⟩
    obtain ⟨Y, hYe⟩ : ∃ Y, H + 1 + 1 = Y := ⟨_, rfl⟩
    have zX : Blk WZ X 55 #[.slice none 0 0, .int .i64 0, .slice none 0 0, .bool false, .int .i64 0] := (by rw [← hXe, ← hWZ]; exact HX.out.1)
    have zY : Blk WZ Y 61 #[.int .i64 0, .int .i64 0, .slice none 0 0] := (by rw [← hYe, ← hWZ]; exact HY.out.1)
    have hXn : X ∉ fpDv a1 n1 c1 fa1 m1 fc1 qs := (by rw [← hXe]; exact HX.out.2.1)
    have hYn : Y ∉ fpDv a1 n1 c1 fa1 m1 fc1 qs := (by rw [← hYe]; exact HY.out.2.1)
    have hX2 : H + 1 < X := (by have := HS0.out; have := HND.out.2.2.1.size; simp at this; omega)
    have hY2 : H + 1 < Y := (by have := HS0.out; have := HND.out.2.2.1.size; simp at this; omega)
    have hXY : X ≠ Y := (by first | omega | (have := HX.out.2.2; omega) | (have := HY.out.2.2; omega))
    try rw [hWZ]
    (try rw [HS0.out])
    (try rw [hXe])
    (try rw [hYe])
    have hN9 := HND.out.1.keep hbz
    have hB9 := HND.out.2.2.1.trans (hbz.mono HND.out.2.2.1.size)
    obtain ⟨r0, r1, r2, r3, r4⟩ := zX.log
    have g0 := zX.frozen 0
    have g1 := zX.frozen 1
    have g2 := zX.frozen 2
    have g3 := zX.frozen 3
    have g4 := zX.frozen 4
    have zY5 := ((((zY.other (B' := X) hXY.symm 0 (.slice a1 n1 c1)).other (B' := X) hXY.symm 1 (.int .i64 ops)).other (B' := X) hXY.symm 2 (.slice fa1 m1 fc1)).other (B' := X) hXY.symm 3 (.bool down)).other (B' := X) hXY.symm 4 (.int .i64 seq)
    obtain ⟨y0, y1, y2⟩ := zY5.thr
    have k0 := zY5.frozen 0
    have k1 := zY5.frozen 1
    have k2 := zY5.frozen 2
    have HFIN : Hid (Blk WZ X 55 #[.slice none 0 0, .int .i64 0, .slice none 0 0, .bool false, .int .i64 0] ∧ Blk WZ Y 61 #[.int .i64 0, .int .i64 0, .slice none 0 0] ∧ NewDv WZ (H + 1 + 1) a1 n1 c1 fa1 m1 fc1 ds fs qs ∧ qs.length = n1 ∧ Below W0.drew.heap.size W0.drew WZ ∧ X ∉ fpDv a1 n1 c1 fa1 m1 fc1 qs ∧ Y ∉ fpDv a1 n1 c1 fa1 m1 fc1 qs ∧ H + 1 < X ∧ H + 1 < Y ∧ X ≠ Y) := ⟨zX, zY, hN9, HND.out.2.1, hB9, hXn, hYn, hX2, hY2, hXY⟩
    clear zX zY zY5 hN9 hB9 hXn hYn hbz hXe hYe
    go_simp
    clear hS
    try dsimp only
    refine Shut.out hK _ _ (((((((HZ0.out.keep HFIN.out.2.2.2.2.1).other (B' := X) (by omega) 0 (.slice a1 n1 c1)).other (B' := X) (by omega) 1 (.int .i64 ops)).other (B' := X) (by omega) 2 (.slice fa1 m1 fc1)).other (B' := X) (by omega) 3 (.bool down)).other (B' := X) (by omega) 4 (.int .i64 seq)).log) (fun hS => ?_)
    try simp only [Act.put, List.setIfInBounds_toArray, List.set_cons_zero, List.set_cons_succ, List.getElem_toArray, List.getElem_cons_succ, List.getElem_cons_zero]
    refine wpAnyH_done (by kernel_rfl) ?_ _
    refine wpOp_last rfl (fun K hK => ?_)
    clear hS
    go_simp
    refine Shut.out hK _ _ (NoPanic.normal ?_)
    rotate_left 1
    all_goals (have HM : Hid _ := wrr_of (D := ⟨ds, ops, fs, down⟩) (seq := seq) (kind := kind) (ab := ab) (lb := lb) (cbb := cbb) HH.out HB0.out HZ0.out HZ1.out HFIN.out; clear hK HFIN HND; go_wp2_with fail; go_meet; exact HM.out)
  case rest =>
    obtain ⟨X, Y, a1, n1, c1, fa1, m1, fc1, qs, rfl, rfl, zX, zY, hN, hl, zH, zR, hB, hX2, hY2, hXY⟩ := hcut
    dsimp only at hN zX
    have hn1 : n1 = n := by rw [← hl, hN.bs.len, hln]
    have hm1 : m1 = m := by rw [← OwnE.len hN.fs, HFL.out]
    subst hn1 hm1
    have HB2 : Hid (Below w.heap.size w wc) := hB
    have HN : Hid (NewDv wc (H + 1 + 1) a1 n1 c1 fa1 m1 fc1 ds fs qs ∧ qs.length = n1 ∧ Blk wc X 55 #[.slice a1 n1 c1, .int .i64 ops, .slice fa1 m1 fc1, .bool down, .int .i64 seq] ∧ Blk wc H 55 #[.slice a n1 cap, .int .i64 ops, .slice fa m1 fc, .bool down, .int .i64 seq] ∧ Blk wc (H + 1) 55 #[.slice none 0 0, .int .i64 0, .slice none 0 0, .bool false, .int .i64 0]) := ⟨hN, hl, zX, zH, zR⟩
    have HY : Hid (Blk wc Y 61 #[.int .i64 kind, .int .i64 seq, .slice ab lb cbb]) := zY
    obtain ⟨y0, y1, y2⟩ := zY.thr
    clear zX zY hN hl zH zR hB HB0 HZ0 HZ1 hall HBA HBR HBAR HBRA hc0 hcA hcR hcAR hcRA s0 s1 s2 s3 s4 HS0 HFL
    go_wp2_with fail
    refine (hro wc).mono ?_
    rintro e w3 ⟨rfl, b3⟩
    clear hro y0 y1 y2
    cases hk : recOk ⟨kind, seq, body⟩ with
    | false =>
      have bX := b3
      try rw [hk]
      have HR : Hid (WrA.mk ⟨ds, ops, down⟩ false (-1) 1 = R) := by show _ = _; rw [← hR, wrOut_form (.inl hk)]
      clear hR hk HDV HRB HY b3
      have HND : Hid (NewDv w3 w.heap.size a1 n1 c1 fa1 m1 fc1 ds fs qs ∧ qs.length = n1 ∧ Below w.heap.size w w3 ∧ H + 1 ∉ fpDv a1 n1 c1 fa1 m1 fc1 qs) := ⟨(HN.out.1.keep bX).wider (by have := HH.out; omega), HN.out.2.1, HB2.out.trans (bX.mono HB2.out.size), fun h => by have := HN.out.1.from (H + 1) h; omega⟩
      obtain ⟨x0, x1, x2, x3, x4⟩ := (HN.out.2.2.1.keep bX).log
      have zr := HN.out.2.2.2.2.keep bX
      clear bX
      obtain ⟨r0, r1, r2, r3, r4⟩ := zr.log
      have g0 := zr.frozen 0
      have g1 := zr.frozen 1
      have g2 := zr.frozen 2
      have g3 := zr.frozen 3
      have g4 := zr.frozen 4
      have zf := ((((zr.set 0 (.slice a1 n1 c1)).set 1 (.int .i64 ops)).set 2 (.slice fa1 m1 fc1)).set 3 (.bool down)).set 4 (.int .i64 seq)
      obtain ⟨d0, d1, d2, d3, d4⟩ := zf.log
      clear zr zf
      go_wp2
      refine bodyPost_ret (v := .tuple #[.agg #[.slice a1 n1 c1, .int .i64 ops, .slice fa1 m1 fc1, .bool down, .int .i64 seq], .int .i64 (-1), .int .i64 1]) (by simp [results, Tryz.f30, go_sem, d0, d1, d2, d3, d4]) rfl ?_
      rw [← HGP.out, ← HR.out]
      obtain ⟨hnd, hql, hb, hf1⟩ := HND.out
      have s : ∀ (W : World) (i : Nat) (v : Value), Below w.heap.size w W → Below w.heap.size w (W.setCell ⟨H + 1, i, none⟩ v) := fun W i v hb => hb.setCell (p := ⟨H + 1, i, none⟩) (by have := HH.out; simp only; omega) v
      exact ⟨a1, n1, c1, fa1, m1, fc1, _, (by unfold WrA.D WrA.sq; rfl), ((((hnd.setN hf1).setN hf1).setN hf1).setN hf1).setN hf1, hql, s _ _ _ (s _ _ _ (s _ _ _ (s _ _ _ (s _ _ _ hb))))⟩
    | true =>
      try rw [hk]
      have hrange := (recOk_iff _).1 hk
      dsimp only at hrange
      obtain ⟨_, _, hs0', hs1', _⟩ := hrange
      obtain ⟨q0, q1, q2, q3, q4⟩ := (HN.out.2.2.2.1.keep b3).log
      go_wp2_with fail
      refine (HDV.out w3 (HB2.out.trans (b3.mono HB2.out.size))).mono ?_
      rintro e w4 ⟨rfl, b4⟩
      have b34 := b3.trans (b4.mono b3.size)
      clear HDV q0 q1 q2 q3 q4 b4 b3
      cases hd : devB ds ops fs with
      | false =>
        have bX := b34
        try rw [hd]
        have HR : Hid (WrA.mk ⟨ds, ops, down⟩ false (-1) 1 = R) := by show _ = _; rw [← hR, wrOut_form (.inr (.inl hd))]
        clear hR hd hk HRB HY b34
        have HND : Hid (NewDv w4 w.heap.size a1 n1 c1 fa1 m1 fc1 ds fs qs ∧ qs.length = n1 ∧ Below w.heap.size w w4 ∧ H + 1 ∉ fpDv a1 n1 c1 fa1 m1 fc1 qs) := ⟨(HN.out.1.keep bX).wider (by have := HH.out; omega), HN.out.2.1, HB2.out.trans (bX.mono HB2.out.size), fun h => by have := HN.out.1.from (H + 1) h; omega⟩
        obtain ⟨x0, x1, x2, x3, x4⟩ := (HN.out.2.2.1.keep bX).log
        have zr := HN.out.2.2.2.2.keep bX
        clear bX
        obtain ⟨r0, r1, r2, r3, r4⟩ := zr.log
        have g0 := zr.frozen 0
        have g1 := zr.frozen 1
        have g2 := zr.frozen 2
        have g3 := zr.frozen 3
        have g4 := zr.frozen 4
        have zf := ((((zr.set 0 (.slice a1 n1 c1)).set 1 (.int .i64 ops)).set 2 (.slice fa1 m1 fc1)).set 3 (.bool down)).set 4 (.int .i64 seq)
        obtain ⟨d0, d1, d2, d3, d4⟩ := zf.log
        clear zr zf
        go_wp2
        refine bodyPost_ret (v := .tuple #[.agg #[.slice a1 n1 c1, .int .i64 ops, .slice fa1 m1 fc1, .bool down, .int .i64 seq], .int .i64 (-1), .int .i64 1]) (by simp [results, Tryz.f30, go_sem, d0, d1, d2, d3, d4]) rfl ?_
        rw [← HGP.out, ← HR.out]
        obtain ⟨hnd, hql, hb, hf1⟩ := HND.out
        have s : ∀ (W : World) (i : Nat) (v : Value), Below w.heap.size w W → Below w.heap.size w (W.setCell ⟨H + 1, i, none⟩ v) := fun W i v hb => hb.setCell (p := ⟨H + 1, i, none⟩) (by have := HH.out; simp only; omega) v
        exact ⟨a1, n1, c1, fa1, m1, fc1, _, (by unfold WrA.D WrA.sq; rfl), ((((hnd.setN hf1).setN hf1).setN hf1).setN hf1).setN hf1, hql, s _ _ _ (s _ _ _ (s _ _ _ (s _ _ _ (s _ _ _ hb))))⟩
      | true =>
        try rw [hd]
        obtain ⟨q0, q1, q2, q3, q4⟩ := (HN.out.2.2.2.1.keep b34).log
        by_cases hsq : seq ≥ 1000000
        · have bX := b34
          have hse : (seq == 1000000) = true := by simp; omega
          have HR : Hid (WrA.mk ⟨ds, ops, down⟩ false (-1) 1 = R) := by show _ = _; rw [← hR, wrOut_form (.inr (.inr (by omega)))]
          clear hR hd hk HRB HY b34
          have HND : Hid (NewDv w4 w.heap.size a1 n1 c1 fa1 m1 fc1 ds fs qs ∧ qs.length = n1 ∧ Below w.heap.size w w4 ∧ H + 1 ∉ fpDv a1 n1 c1 fa1 m1 fc1 qs) := ⟨(HN.out.1.keep bX).wider (by have := HH.out; omega), HN.out.2.1, HB2.out.trans (bX.mono HB2.out.size), fun h => by have := HN.out.1.from (H + 1) h; omega⟩
          obtain ⟨x0, x1, x2, x3, x4⟩ := (HN.out.2.2.1.keep bX).log
          have zr := HN.out.2.2.2.2.keep bX
          clear bX
          obtain ⟨r0, r1, r2, r3, r4⟩ := zr.log
          have g0 := zr.frozen 0
          have g1 := zr.frozen 1
          have g2 := zr.frozen 2
          have g3 := zr.frozen 3
          have g4 := zr.frozen 4
          have zf := ((((zr.set 0 (.slice a1 n1 c1)).set 1 (.int .i64 ops)).set 2 (.slice fa1 m1 fc1)).set 3 (.bool down)).set 4 (.int .i64 seq)
          obtain ⟨d0, d1, d2, d3, d4⟩ := zf.log
          clear zr zf
          go_wp2
          refine bodyPost_ret (v := .tuple #[.agg #[.slice a1 n1 c1, .int .i64 ops, .slice fa1 m1 fc1, .bool down, .int .i64 seq], .int .i64 (-1), .int .i64 1]) (by simp [results, Tryz.f30, go_sem, d0, d1, d2, d3, d4]) rfl ?_
          rw [← HGP.out, ← HR.out]
          obtain ⟨hnd, hql, hb, hf1⟩ := HND.out
          have s : ∀ (W : World) (i : Nat) (v : Value), Below w.heap.size w W → Below w.heap.size w (W.setCell ⟨H + 1, i, none⟩ v) := fun W i v hb => hb.setCell (p := ⟨H + 1, i, none⟩) (by have := HH.out; simp only; omega) v
          exact ⟨a1, n1, c1, fa1, m1, fc1, _, (by unfold WrA.D WrA.sq; rfl), ((((hnd.setN hf1).setN hf1).setN hf1).setN hf1).setN hf1, hql, s _ _ _ (s _ _ _ (s _ _ _ (s _ _ _ (s _ _ _ hb))))⟩
        have hse : (seq == 1000000) = false := by simp; omega
        cases down with
        | true =>
          have bX := b34
          have HR : Hid (WrA.mk ⟨ds, ops, true⟩ false (-1) 10 = R) := by show _ = _; rw [← hR, wrOut_down hk hd (by omega)]
          clear hR hd hk HRB HY b34
          have HND : Hid (NewDv w4 w.heap.size a1 n1 c1 fa1 m1 fc1 ds fs qs ∧ qs.length = n1 ∧ Below w.heap.size w w4 ∧ H + 1 ∉ fpDv a1 n1 c1 fa1 m1 fc1 qs) := ⟨(HN.out.1.keep bX).wider (by have := HH.out; omega), HN.out.2.1, HB2.out.trans (bX.mono HB2.out.size), fun h => by have := HN.out.1.from (H + 1) h; omega⟩
          obtain ⟨x0, x1, x2, x3, x4⟩ := (HN.out.2.2.1.keep bX).log
          have zr := HN.out.2.2.2.2.keep bX
          clear bX
          obtain ⟨r0, r1, r2, r3, r4⟩ := zr.log
          have g0 := zr.frozen 0
          have g1 := zr.frozen 1
          have g2 := zr.frozen 2
          have g3 := zr.frozen 3
          have g4 := zr.frozen 4
          have zf := ((((zr.set 0 (.slice a1 n1 c1)).set 1 (.int .i64 ops)).set 2 (.slice fa1 m1 fc1)).set 3 (.bool true)).set 4 (.int .i64 seq)
          obtain ⟨d0, d1, d2, d3, d4⟩ := zf.log
          clear zr zf
          go_wp2
          refine bodyPost_ret (v := .tuple #[.agg #[.slice a1 n1 c1, .int .i64 ops, .slice fa1 m1 fc1, .bool true, .int .i64 seq], .int .i64 (-1), .int .i64 10]) (by simp [results, Tryz.f30, go_sem, d0, d1, d2, d3, d4]) rfl ?_
          rw [← HGP.out, ← HR.out]
          obtain ⟨hnd, hql, hb, hf1⟩ := HND.out
          have s : ∀ (W : World) (i : Nat) (v : Value), Below w.heap.size w W → Below w.heap.size w (W.setCell ⟨H + 1, i, none⟩ v) := fun W i v hb => hb.setCell (p := ⟨H + 1, i, none⟩) (by have := HH.out; simp only; omega) v
          exact ⟨a1, n1, c1, fa1, m1, fc1, _, (by unfold WrA.D WrA.sq; rfl), ((((hnd.setN hf1).setN hf1).setN hf1).setN hf1).setN hf1, hql, s _ _ _ (s _ _ _ (s _ _ _ (s _ _ _ (s _ _ _ hb))))⟩
        | false =>
          have HB4 : Hid (Below w.heap.size w w4) := HB2.out.trans (b34.mono HB2.out.size)
          have HBd : Hid (Below w4.heap.size w4 w4.drew) := (Below.refl _ w4).drew
          have hpr := putRecI_yes ⟨kind, seq, body⟩ ab cbb w4.drew ⟨(HRB.out _ (HB4.out.trans (HBd.out.mono HB4.out.size))).1, hby⟩ hk
          unfold recC at hpr
          dsimp only at hpr
          obtain ⟨Z, hZe⟩ : ∃ Z, summedOf (recEnc ⟨kind, seq, body⟩) = Z := ⟨_, rfl⟩
          obtain ⟨nb, hnbe⟩ : ∃ x, (recEnc ⟨kind, seq, body⟩).length + 4 = x := ⟨_, rfl⟩
          have hz : Z.length = nb := by rw [← hZe, summedOf_len, hnbe]
          have hn4 : nb ≤ 400 := by
            have := recPut_len ⟨kind, seq, body⟩
            unfold recPut at this
            rw [if_pos hk, hZe, hz] at this
            exact this
          rw [hZe, hnbe, hbl] at hpr
          rw [wrOut_go hk hd (by omega), hln, hZe] at hR
          have hC : ∀ (U : World) (gb cb : Nat), Below w4.heap.size w4 U → Own U gb nb cb Z → Calls Tryz.prog 76 #[.agg #[.slice a1 n1 c1, .int .i64 ops, .slice fa1 m1 fc1, .bool false, .int .i64 seq], .slice (some ⟨gb, 0, none⟩) nb cb, .int .i64 spare] U (LwA U (H + 1 + 1) (R.D fs) (R.sq seq) R.adr R.code) := fun U gb cb hU ho => by
            have hcb : nb ≤ cb := by
              rcases ho.2 with ⟨h1, h2⟩ | ⟨g', c', cur, h1, _, _, h2, _⟩
              · simp at h1
              · simp only [Value.slice.injEq] at h1; omega
            have hBU := HB4.out.trans (hU.mono HB4.out.size)
            have hsU : H + 1 + 1 ≤ U.heap.size := by have h1 := (HN.out.2.2.1.keep (b34.trans (hU.mono b34.size))).lt; omega
            have h := loopI fs Z spare (H + 1 + 1) ⟨ds, ops, false⟩ a1 n1 c1 fa1 m1 fc1 qs seq gb nb cb U (HN.out.1.keep (b34.trans (hU.mono b34.size))) HN.out.2.1 ⟨hd, rfl⟩ hfm ⟨by omega, by omega⟩ hz hn4 hcb ho.rd (HRB.out U hBU).2 hsU
            rw [hR] at h
            exact h
          obtain ⟨⟨rds, rops, rdn⟩, rmore, radr, rcode⟩ := R
          unfold WrA.D at hC
          dsimp only at hC
          obtain ⟨sqr, hsqr⟩ : ∃ x, WrA.sq ⟨⟨rds, rops, rdn⟩, rmore, radr, rcode⟩ seq = x := ⟨_, rfl⟩
          rw [hsqr] at hC
          have HSQ : Hid _ := hsqr
          have HC : Hid _ := hC
          have HX4 : Hid (Blk w4 X 55 #[.slice a1 n1 c1, .int .i64 ops, .slice fa1 m1 fc1, .bool false, .int .i64 seq]) := HN.out.2.2.1.keep b34
          have HY4 : Hid (Blk w4 Y 61 #[.int .i64 kind, .int .i64 seq, .slice ab lb cbb]) := HY.out.keep b34
          have HR4 : Hid (Blk w4 (H + 1) 55 #[.slice none 0 0, .int .i64 0, .slice none 0 0, .bool false, .int .i64 0]) := HN.out.2.2.2.2.keep b34
          have hs6 : Hid (∀ W : World, Blk W X 55 #[.slice a1 n1 c1, .int .i64 ops, .slice fa1 m1 fc1, .bool false, .int .i64 seq] → Blk W Y 61 #[.int .i64 kind, .int .i64 seq, .slice ab lb cbb] → W.cell? ⟨X, 0, none⟩ = some (.slice a1 n1 c1) ∧ W.cell? ⟨X, 1, none⟩ = some (.int .i64 ops) ∧ W.cell? ⟨X, 2, none⟩ = some (.slice fa1 m1 fc1) ∧ W.cell? ⟨X, 3, none⟩ = some (.bool false) ∧ W.cell? ⟨X, 4, none⟩ = some (.int .i64 seq) ∧ W.cell? ⟨Y, 0, none⟩ = some (.int .i64 kind) ∧ W.cell? ⟨Y, 1, none⟩ = some (.int .i64 seq) ∧ W.cell? ⟨Y, 2, none⟩ = some (.slice ab lb cbb)) := fun W h1 h2 => ⟨h1.cell 0, h1.cell 1, h1.cell 2, h1.cell 3, h1.cell 4, h2.cell 0, h2.cell 1, h2.cell 2⟩
          obtain ⟨s0, s1, s2, s3, s4, s5, s6, s7⟩ := hs6.out w4.drew (HX4.out.keep HBd.out) (HY4.out.keep HBd.out)
          clear hR hd hk HRB HY b34 hC hsqr hZe hnbe hz hn4
          go_upto_region 6 with fail
          refine wp_region_noPanic ?_
          refine wp_region_last (fun W : World => W.cell? ⟨X, 0, none⟩ = some (.slice a1 n1 c1) ∧ W.cell? ⟨X, 1, none⟩ = some (.int .i64 ops) ∧ W.cell? ⟨X, 2, none⟩ = some (.slice fa1 m1 fc1) ∧ W.cell? ⟨X, 3, none⟩ = some (.bool false) ∧ W.cell? ⟨X, 4, none⟩ = some (.int .i64 seq) ∧ W.cell? ⟨Y, 0, none⟩ = some (.int .i64 kind) ∧ W.cell? ⟨Y, 1, none⟩ = some (.int .i64 seq) ∧ W.cell? ⟨Y, 2, none⟩ = some (.slice ab lb cbb)) 10 (by kernel_rfl) (by kernel_rfl) (by go_keep) 10 (by kernel_rfl) (fun hS => ?_)
          refine wpAnyH_take (i := 0) (v := ?gv7) rfl (by kernel_rfl) (by kernel_rfl) (by kernel_rfl) (fun _ _ _ h => h) (Or.inl ⟨by kernel_rfl, ?gy7⟩) (by assumption) ?gr7
          case gy7 => (intro w' hSw; (try dsimp only at hSw); go_simp; (try with_reducible rfl))
          try simp only [Act.put, List.setIfInBounds_toArray, List.set_cons_zero, List.set_cons_succ, List.getElem_toArray, List.getElem_cons_zero]
          refine wpAnyH_take (i := 1) (v := ?gv8) rfl (by kernel_rfl) (by kernel_rfl) (by kernel_rfl) (fun _ _ _ h => h) (Or.inl ⟨by kernel_rfl, ?gy8⟩) (by assumption) ?gr8
          case gy8 => (intro w' hSw; (try dsimp only at hSw); go_simp; (try with_reducible rfl))
          try simp only [Act.put, List.setIfInBounds_toArray, List.set_cons_zero, List.set_cons_succ, List.getElem_toArray, List.getElem_cons_succ, List.getElem_cons_zero]
          refine wpAnyH_take (i := 3) (v := ?gv9) rfl (by kernel_rfl) (by kernel_rfl) (by kernel_rfl) (fun _ _ _ h => h) (Or.inl ⟨by kernel_rfl, ?gy9⟩) (by assumption) ?gr9
          case gy9 => (intro w' hSw; (try dsimp only at hSw); go_simp; (try with_reducible rfl))
          try simp only [Act.put, List.setIfInBounds_toArray, List.set_cons_zero, List.set_cons_succ, List.getElem_toArray, List.getElem_cons_succ, List.getElem_cons_zero]
          refine wpAnyH_ready (rs := [2]) (by kernel_rfl) (by simp) ?_
          refine AllReadyH.cons rfl (fun K hK => ?_) AllReadyH.nil
          go_simp
          (with_reducible refine hpr.mono ?_)
          rintro e w5 ⟨gb, cb, rfl, hgb, ho, b5⟩
          have HP : Hid (Below w4.heap.size w4 w5 ∧ Own w5 gb nb cb Z) := ⟨HBd.out.trans (b5.mono HBd.out.size), ho⟩
          clear hpr hgb ho b5
          dsimp only
          clear hS
          try dsimp only
          refine Shut.out hK _ _ (hs6.out w5 (HX4.out.keep HP.out.1) (HY4.out.keep HP.out.1)) (fun hS => ?_)
          try simp only [Act.put, List.setIfInBounds_toArray, List.set_cons_zero, List.set_cons_succ, List.getElem_toArray, List.getElem_cons_succ, List.getElem_cons_zero]
          refine wpAnyH_ready (rs := [4]) (by kernel_rfl) (by simp) ?_
          refine AllReadyH.cons rfl (fun K hK => ?_) AllReadyH.nil
          go_simp
          (with_reducible refine (HC.out w5 gb cb HP.out.1 HP.out.2).mono ?_)
          rintro e w6 ⟨a9, n9, c9, fa9, m9, fc9, qs9, rfl, hN9, hl9, b9⟩
          have B46 : Below w4.heap.size w4 w6 := HP.out.1.trans (b9.mono HP.out.1.size)
          have HND : Hid (NewDv w6 w.heap.size a9 n9 c9 fa9 m9 fc9 rds fs qs9 ∧ qs9.length = n9 ∧ Below w.heap.size w w6 ∧ H + 1 ∉ fpDv a9 n9 c9 fa9 m9 fc9 qs9) := ⟨hN9.wider (by have := HH.out; omega), hl9, HB4.out.trans (B46.mono HB4.out.size), fun h => by have := hN9.from (H + 1) h; omega⟩
          have HZ6 : Hid (Blk w6 X 55 #[.slice a1 n1 c1, .int .i64 ops, .slice fa1 m1 fc1, .bool false, .int .i64 seq] ∧ Blk w6 Y 61 #[.int .i64 kind, .int .i64 seq, .slice ab lb cbb] ∧ Blk w6 (H + 1) 55 #[.slice none 0 0, .int .i64 0, .slice none 0 0, .bool false, .int .i64 0]) := ⟨HX4.out.keep B46, HY4.out.keep B46, HR4.out.keep B46⟩
          clear hN9 hl9 b9 B46
          dsimp only
          clear hS
          try dsimp only
          refine Shut.out hK _ _ (hs6.out w6 HZ6.out.1 HZ6.out.2.1) (fun hS => ?_)
          try simp only [Act.put, List.setIfInBounds_toArray, List.set_cons_zero, List.set_cons_succ, List.getElem_toArray, List.getElem_cons_succ, List.getElem_cons_zero]
          refine wpAnyH_take (i := 5) (v := ?gv10) rfl (by kernel_rfl) (by kernel_rfl) (by kernel_rfl) (fun _ _ _ h => h) (Or.inl ⟨by kernel_rfl, ?gy10⟩) (by assumption) ?gr10
          case gy10 => (intro w' hSw; (try dsimp only at hSw); go_simp; (try with_reducible rfl))
          try simp only [Act.put, List.setIfInBounds_toArray, List.set_cons_zero, List.set_cons_succ, List.getElem_toArray, List.getElem_cons_succ, List.getElem_cons_zero]
          refine wpAnyH_take (i := 6) (v := ?gv11) rfl (by kernel_rfl) (by kernel_rfl) (by kernel_rfl) (fun _ _ _ h => h) (Or.inl ⟨by kernel_rfl, ?gy11⟩) (by assumption) ?gr11
          case gy11 => (intro w' hSw; (try dsimp only at hSw); go_simp; (try with_reducible rfl))
          try simp only [Act.put, List.setIfInBounds_toArray, List.set_cons_zero, List.set_cons_succ, List.getElem_toArray, List.getElem_cons_succ, List.getElem_cons_zero]
          refine wpAnyH_take (i := 7) (v := ?gv12) rfl (by kernel_rfl) (by kernel_rfl) (by kernel_rfl) (fun _ _ _ h => h) (Or.inl ⟨by kernel_rfl, ?gy12⟩) (by assumption) ?gr12
          case gy12 => (intro w' hSw; (try dsimp only at hSw); go_simp; (try with_reducible rfl))
          try simp only [Act.put, List.setIfInBounds_toArray, List.set_cons_zero, List.set_cons_succ, List.getElem_toArray, List.getElem_cons_succ, List.getElem_cons_zero]
          refine wpAnyH_ready (rs := [8]) (by kernel_rfl) (by simp) ?_
          refine AllReadyH.cons rfl (fun K hK => ?_) AllReadyH.nil
          obtain ⟨r0, r1, r2, r3, r4⟩ := HZ6.out.2.2.log
          have g0 := HZ6.out.2.2.frozen 0
          have g1 := HZ6.out.2.2.frozen 1
          have g2 := HZ6.out.2.2.frozen 2
          have g3 := HZ6.out.2.2.frozen 3
          have g4 := HZ6.out.2.2.frozen 4
          have zf := ((((HZ6.out.2.2.set 0 (.slice a9 n9 c9)).set 1 (.int .i64 rops)).set 2 (.slice fa9 m9 fc9)).set 3 (.bool rdn)).set 4 (.int .i64 sqr)
          obtain ⟨d0, d1, d2, d3, d4⟩ := zf.log
          clear zf
          go_simp
          clear hS
          try dsimp only
          refine Shut.out hK _ _ (hs6.out _ ((((((((((HZ6.out.1).other (B' := H + 1) (by omega) 0 (.slice a9 n9 c9))).other (B' := H + 1) (by omega) 1 (.int .i64 rops))).other (B' := H + 1) (by omega) 2 (.slice fa9 m9 fc9))).other (B' := H + 1) (by omega) 3 (.bool rdn))).other (B' := H + 1) (by omega) 4 (.int .i64 sqr)) ((((((((((HZ6.out.2.1).other (B' := H + 1) (by omega) 0 (.slice a9 n9 c9))).other (B' := H + 1) (by omega) 1 (.int .i64 rops))).other (B' := H + 1) (by omega) 2 (.slice fa9 m9 fc9))).other (B' := H + 1) (by omega) 3 (.bool rdn))).other (B' := H + 1) (by omega) 4 (.int .i64 sqr))) (fun hS => ?_)
          try simp only [Act.put, List.setIfInBounds_toArray, List.set_cons_zero, List.set_cons_succ, List.getElem_toArray, List.getElem_cons_succ, List.getElem_cons_zero]
          refine wpAnyH_take (i := 9) (v := ?gv13) rfl (by kernel_rfl) (by kernel_rfl) (by kernel_rfl) (fun _ _ _ h => h) (Or.inl ⟨by kernel_rfl, ?gy13⟩) (by assumption) ?gr13
          case gy13 => (intro w' hSw; (try dsimp only at hSw); go_simp; (try with_reducible rfl))
          try simp only [Act.put, List.setIfInBounds_toArray, List.set_cons_zero, List.set_cons_succ, List.getElem_toArray, List.getElem_cons_succ, List.getElem_cons_zero]
          refine wpAnyH_done (by kernel_rfl) ?_ _
          refine wpOp_last rfl (fun K hK => ?_)
          clear hS
          go_simp
          refine Shut.out hK _ _ (NoPanic.normal ?_)
          go_wp2
          refine bodyPost_ret (v := .tuple #[.agg #[.slice a9 n9 c9, .int .i64 rops, .slice fa9 m9 fc9, .bool rdn, .int .i64 sqr], .int .i64 radr, .int .i64 rcode]) (by simp [results, Tryz.f30, go_sem, d0, d1, d2, d3, d4]) rfl ?_
          rw [← HGP.out]
          obtain ⟨hnd, hql, hb, hf1⟩ := HND.out
          have s : ∀ (W : World) (i : Nat) (v : Value), Below w.heap.size w W → Below w.heap.size w (W.setCell ⟨H + 1, i, none⟩ v) := fun W i v hb => hb.setCell (p := ⟨H + 1, i, none⟩) (by have := HH.out; simp only; omega) v
          exact ⟨a9, n9, c9, fa9, m9, fc9, _, (by rw [← HSQ.out]; rfl), ((((hnd.setN hf1).setN hf1).setN hf1).setN hf1).setN hf1, hql, s _ _ _ (s _ _ _ (s _ _ _ (s _ _ _ (s _ _ _ hb))))⟩
end

section
open Go.RowKit
/-- A log that can be read, and its box. -/
structure LK (W : World) (X : Nat) (va : Option Addr) (vn vc : Nat) (op : Int) (fa : Option Addr) (m fc : Nat) (dn : Bool) (seq : Int) (qs : List BkR) (fs : List FtD) : Prop where
  c : CR W va vn qs
  f : FR W fa m fs
  b : Blk W X 55 #[.slice va vn vc, .int .i64 op, .slice fa m fc, .bool dn, .int .i64 seq]
theorem LK.keep {W W' : World} {X : Nat} {va : Option Addr} {vn vc : Nat} {op : Int} {fa : Option Addr} {m fc : Nat} {dn : Bool} {seq : Int} {qs : List BkR} {fs : List FtD} (h : LK W X va vn vc op fa m fc dn seq qs fs) (hb : Below W.heap.size W W') : LK W' X va vn vc op fa m fc dn seq qs fs := ⟨h.c.keep hb, h.f.keep hb, h.b.keep hb⟩
theorem fr_one (w : World) (x y z : Int) : FR (w.alloc (.cells #[.int .i64 x, .int .i64 y, .int .i64 z] 51)) (some ⟨w.heap.size, 0, none⟩) 1 [⟨x, y, z⟩] := by
  refine ⟨rfl, by omega, .inr ⟨_, 0, rfl, fun i r hi => ?_⟩⟩
  have h0 : i = 0 := by
    have := (List.getElem?_eq_some_iff.1 hi).1
    simp at this
    exact this
  subst h0
  have hr : r = ⟨x, y, z⟩ := by simpa using hi.symm
  subst hr
  refine ⟨fun j hj => ?_, trivial⟩
  have hj3 : j < 3 := hj
  have h1 := (Blk.new w 51 #[.int .i64 x, .int .i64 y, .int .i64 z]).cell j
  rw [show 0 + 0 * ftE.k + j = j by omega, h1]
  rcases (show j = 0 ∨ j = 1 ∨ j = 2 by omega) with rfl | rfl | rfl <;> rfl
set_option maxRecDepth 100000 in
set_option maxHeartbeats 8000000 in
theorem walkTorn (a0 : Option Addr) (len0 cap0 : Nat) (zs : List Int) (w : World) (hn : zs.length = len0) (hr : Rd w a0 zs) (hb : Byt zs) (hg : EtCell w) :
    Calls Tryz.prog 8 #[.slice a0 len0 cap0] w fun e w' => e = .returned (.bool true) ∧ Below w.heap.size w w' := by
  by_cases hbig : 1048576 < len0
  · have hd : decide ((1048576 : Int) < (len0 : Int)) = true := by simp; omega
    go_enter Tryz.func8, Tryz.ntmps8
    go_wp2_with fail
    refine (big_any a0 len0 cap0 w).mono ?_
    rintro e w1 ⟨rfl, hw⟩
    obtain rfl := hw.symm
    rw [hd]
    go_wp2
    go_ret
    exact ⟨rfl, Below.refl _ _⟩
  have hd : decide ((1048576 : Int) < (len0 : Int)) = false := by simp; omega
  have hcL := drawLog_any a0 len0 cap0 zs w hn (by omega) hr hb
  obtain ⟨v, hv⟩ : ∃ v, atVal zs len0 2 = v := ⟨_, rfl⟩
  have hv1 : v ≤ 255 := by rw [← hv]; exact atVal_le zs len0 2 hb
  have HAT : Hid (∀ W : World, Below w.heap.size w W → Calls Tryz.prog 38 #[.slice a0 len0 cap0, .int .i64 2] W fun e w' => e = .returned (.int .i64 (v : Int)) ∧ w' = W) := fun W hW => by
    have := at_any a0 len0 cap0 zs 2 W hn (by omega) (by omega) (hr.keep hW) hb
    rw [hv] at this
    exact this
  have HG : Hid (EtCell w) := hg
  clear hn hr hb hg hv
  go_enter Tryz.func8, Tryz.ntmps8
  go_wp2_with fail
  refine (big_any a0 len0 cap0 w).mono ?_
  rintro e w1 ⟨rfl, hw⟩
  obtain rfl := hw.symm
  rw [hd]
  clear hd hbig
  go_wp2_with fail
  refine hcL.mono ?_
  rintro e w1 ⟨⟨ds, op, fs0, dn⟩, seq, va, vn, vc, fa, m, fc, qs, gb, mb, cb, ys, rfl, hnd, hql, hok, hbt, hsq, hmb, hob, hyb, hgb, _, b1⟩
  dsimp only at hnd hok hbt hsq
  have hm : m ≤ 1048576 := by
    have h4 := (devB_parts.1 hok).2.2
    unfold faultsB at h4
    simp at h4
    have := OwnE.len hnd.fs
    omega
  have hf1 : FR w1 fa m fs0 := OwnFa.fr hnd.fs hm
  have hc1 : CR w1 va vn qs := hnd.cr hql (devB_tot hok)
  have hD : qs.map BkR.D = ds := hnd.bs.D
  have b2 : Below w1.heap.size w1 (w1.alloc (.cells #[.slice va vn vc, .int .i64 op, .slice fa m fc, .bool dn, .int .i64 seq] 55)) := (Below.refl _ _).alloc (Nat.le_refl _) _
  have z2 := Blk.new w1 55 #[.slice va vn vc, .int .i64 op, .slice fa m fc, .bool dn, .int .i64 seq]
  have hP := powerUpI va vn vc qs op fa m fc fs0 dn _ (hc1.keep b2) (hf1.keep b2)
  rw [hD] at hP
  have o2 := hob.keep b2 hob.lt
  have B2 := b1.trans (b2.mono b1.size)
  obtain ⟨q0, q1, q2, q3, q4⟩ := z2.log
  have hgx : gb < w1.heap.size := hob.lt
  have HQ : Hid (devB ds op fs0 = true ∧ BytC ds ∧ SeqO 20 ds op seq ∧ Byt ys) := ⟨hok, hbt, hsq, hyb⟩
  clear hcL hnd hql hok hbt hsq hyb hm hf1 hc1 hD hob b1 b2
  go_wp2_with fail
  obtain ⟨W2, hW2⟩ : ∃ W, w1.alloc (.cells #[.slice va vn vc, .int .i64 op, .slice fa m fc, .bool dn, .int .i64 seq] 55) = W := ⟨_, rfl⟩
  obtain ⟨X, hX⟩ : ∃ X, w1.heap.size = X := ⟨_, rfl⟩
  rw [hW2] at z2 hP o2 B2
  rw [hX] at z2 hgx
  try rw [hW2]
  try rw [hX]
  clear hW2 hX q0 q1 q2 q3 q4
  refine hP.mono ?_
  rintro e w3 ⟨a3, n3, c3, fa3, m3, fc3, qs3, rfl, hnd3, hql3, b3⟩
  dsimp only at hnd3 ⊢
  have z3 := z2.keep b3
  have o3 := o2.keep b3 o2.lt
  have B3 := B2.trans (b3.mono B2.size)
  have hXl := z2.lt
  have hc3 : CR w3 a3 n3 qs3 := hnd3.cr hql3 (devB_tot HQ.out.1)
  have hD3 : qs3.map BkR.D = ds := hnd3.bs.D
  have hcX := (hnd3.set_below (j := X) (i := 0) (u := .slice a3 n3 c3) hXl)
  have hcX := (hcX.set_below (j := X) (i := 1) (u := .int .i64 op) hXl)
  have hcX := (hcX.set_below (j := X) (i := 2) (u := .slice fa3 m3 fc3) hXl)
  have hcX := (hcX.set_below (j := X) (i := 3) (u := .bool false) hXl)
  have zz := (((z3.set 0 (.slice a3 n3 c3)).set 1 (.int .i64 op)).set 2 (.slice fa3 m3 fc3)).set 3 (.bool false)
  simp at zz
  obtain ⟨q0, q1, q2, q3, q4⟩ := z3.log
  have g0 := z3.frozen 0
  have g1 := z3.frozen 1
  have g2 := z3.frozen 2
  have g3 := z3.frozen 3
  have on : ∀ (W : World) (i : Nat) (v : Value), Own W gb mb cb ys → Own (W.setCell ⟨X, i, none⟩ v) gb mb cb ys := fun W i v h => Own.kept h (gr_setC W X i v) (by omega)
  have o4 := on _ 3 (.bool false) (on _ 2 (.slice fa3 m3 fc3) (on _ 1 (.int .i64 op) (on _ 0 (.slice a3 n3 c3) o3)))
  have hXw : w.heap.size ≤ X := by omega
  have B4 := (((B3.setCell (p := ⟨X, 0, none⟩) hXw (.slice a3 n3 c3)).setCell (p := ⟨X, 1, none⟩) hXw (.int .i64 op)).setCell (p := ⟨X, 2, none⟩) hXw (.slice fa3 m3 fc3)).setCell (p := ⟨X, 3, none⟩) hXw (.bool false)
  clear hnd3 z2 o2 B2 b3 z3 o3 B3 hc3 hP
  go_wp2_with fail
  obtain ⟨W4, hW4⟩ : ∃ W, (((w3.setCell ⟨X, 0, none⟩ (.slice a3 n3 c3)).setCell ⟨X, 1, none⟩ (.int .i64 op)).setCell ⟨X, 2, none⟩ (.slice fa3 m3 fc3)).setCell ⟨X, 3, none⟩ (.bool false) = W := ⟨_, rfl⟩
  rw [hW4] at hcX o4 B4 zz
  try rw [hW4]
  clear hW4 q0 q1 q2 q3 q4 g0 g1 g2 g3
  refine (HAT.out W4 B4).mono ?_
  rintro e w5 ⟨rfl, hw⟩
  obtain rfl := hw.symm
  clear hw
  obtain ⟨kk, hkk⟩ : ∃ k, v % 30 = k := ⟨_, rfl⟩
  have hk30 : kk < 30 := by omega
  have hmod : (v : Int) % 30 = (kk : Int) := by omega
  have hmod2 : Int.tmod (v : Int) 30 = (kk : Int) := by rw [Int.tmod_eq_emod_of_nonneg (by omega)]; exact hmod
  have hXW : X < W4.heap.size := zz.lt
  have hg2 := zz.frozen 2
  obtain ⟨q0, q1, q2, q3, q4⟩ := zz.log
  have z5 := zz.set 2 (.slice (some ⟨W4.heap.size, 0, none⟩) 1 1)
  simp at z5
  have c5 : CR (W4.setCell ⟨X, 2, none⟩ (.slice (some ⟨W4.heap.size, 0, none⟩) 1 1)) a3 n3 qs3 := (hcX.set_below (j := X) (i := 2) (u := .slice (some ⟨W4.heap.size, 0, none⟩) 1 1) hXl).cr hql3 (devB_tot HQ.out.1)
  have o5 := on W4 2 (.slice (some ⟨W4.heap.size, 0, none⟩) 1 1) o4
  have B5 := B4.setCell (p := ⟨X, 2, none⟩) hXw (.slice (some ⟨W4.heap.size, 0, none⟩) 1 1)
  have f6 := fr_one (W4.setCell ⟨X, 2, none⟩ (.slice (some ⟨W4.heap.size, 0, none⟩) 1 1)) op 2 (kk : Int)
  rw [size_setC] at f6
  have b6 : Below (W4.setCell ⟨X, 2, none⟩ (.slice (some ⟨W4.heap.size, 0, none⟩) 1 1)).heap.size (W4.setCell ⟨X, 2, none⟩ (.slice (some ⟨W4.heap.size, 0, none⟩) 1 1)) ((W4.setCell ⟨X, 2, none⟩ (.slice (some ⟨W4.heap.size, 0, none⟩) 1 1)).alloc (.cells #[.int .i64 op, .int .i64 2, .int .i64 (kk : Int)] 51)) := (Below.refl _ _).alloc (Nat.le_refl _) _
  have l6 : LK ((W4.setCell ⟨X, 2, none⟩ (.slice (some ⟨W4.heap.size, 0, none⟩) 1 1)).alloc (.cells #[.int .i64 op, .int .i64 2, .int .i64 (kk : Int)] 51)) X a3 n3 c3 op (some ⟨W4.heap.size, 0, none⟩) 1 1 false seq qs3 [⟨op, 2, (kk : Int)⟩] := ⟨c5.keep b6, f6, z5.keep b6⟩
  have o6 := o5.keep b6 o5.lt
  have B6 := B5.trans (b6.mono B5.size)
  obtain ⟨r0, r1, r2, r3, r4⟩ := l6.b.log
  clear c5 o4 o5 B4 B5 zz z5 f6 b6 on hcX
  go_wp2_with fail
  obtain ⟨W6, hW6⟩ : ∃ W, (W4.setCell ⟨X, 2, none⟩ (.slice (some ⟨W4.heap.size, 0, none⟩) 1 1)).alloc (.cells #[.int .i64 op, .int .i64 2, .int .i64 (kk : Int)] 51) = W := ⟨_, rfl⟩
  obtain ⟨Y, hY⟩ : ∃ Y, W4.heap.size = Y := ⟨_, rfl⟩
  rw [hW6] at l6 o6 B6
  try rw [hW6]
  rw [hY] at l6
  try rw [hY]
  clear hW6 hY r0 r1 r2 r3 r4 q0 q1 q2 q3 q4 hg2
  obtain ⟨hok, hbt, hsq, hyb⟩ := HQ.out
  obtain ⟨hZr, hZ4, hd2, hneg, hpos⟩ := torn_out (keep := (kk : Int)) (t := 20) (body := ys) hok hsq (by omega) hyb (by rw [o6.len2]; omega) ⟨by omega, by omega⟩ rfl
  have hRP : recPut ⟨2, seq, ys⟩ = summedOf (recEnc ⟨2, seq, ys⟩) := by unfold recPut; rw [if_pos hZr]
  have hbtw := bytC_wrOut (ops := op) (fs := [⟨op, 2, (kk : Int)⟩]) (down := false) (seq := seq) (kind := 2) (body := ys) (spare := 0) hbt
  have CO := openI a3 n3 c3 qs3 op (some ⟨Y, 0, none⟩) 1 1 false seq 0 W6 l6.c
  have CP := fun (W : World) (h : Rd W (some ⟨gb, 0, none⟩) ys) => putRecI ⟨2, seq, ys⟩ (some ⟨gb, 0, none⟩) cb W (by show ys.length ≤ 1048576; rw [o6.len2]; omega) ⟨h, hyb⟩
  rw [hRP] at CP
  have CW := fun (W : World) (h : LK W X a3 n3 c3 op (some ⟨Y, 0, none⟩) 1 1 false seq qs3 [⟨op, 2, (kk : Int)⟩]) (hr : Rd W (some ⟨gb, 0, none⟩) ys) (hE : EtCell W) => writeI a3 n3 c3 qs3 op (some ⟨Y, 0, none⟩) 1 1 [⟨op, 2, (kk : Int)⟩] false seq 2 ys (some ⟨gb, 0, none⟩) mb cb 0 W h.c h.f o6.len2 (by omega) hr hyb hE
  have CN := fun (W : World) (h : CR W a3 n3 qs3) (k : Int) => nextI a3 n3 c3 qs3 k W h
  rw [hD3] at CO CW CN
  obtain ⟨nz, hnz⟩ : ∃ n, (summedOf (recEnc ⟨2, seq, ys⟩)).length = n := ⟨_, rfl⟩
  rw [hnz] at hZ4 hpos CP
  obtain ⟨R, hR⟩ : ∃ R, wrOut ds op [⟨op, 2, (kk : Int)⟩] false seq 2 ys 0 = R := ⟨_, rfl⟩
  rw [hR] at hneg hpos CW hbtw
  obtain ⟨blk, hblk⟩ : ∃ b, openD ds 0 = b := ⟨_, rfl⟩
  rw [hblk] at hneg hpos CO
  have hyl : ys.length = mb := o6.len2
  have hds24 : ds.length ≤ 24 := (devB_parts.1 hok).1.2.1
  have HCP : Hid _ := CP
  have HCW : Hid _ := CW
  have HCN : Hid _ := CN
  have HNEG : Hid _ := hneg
  have HPOS : Hid _ := hpos
  have HBTW : Hid _ := hbtw
  have HYL : Hid (ys.length = mb) := hyl
  clear CP CW CN hneg hpos hok hbt hsq hyb hZr hd2 hRP hnz hR hblk hbtw HQ hyl
  refine CO.mono ?_
  rintro e w7 ⟨rfl, b7⟩
  have l7 := l6.keep b7
  have o7 := o6.keep b7 o6.lt
  have B7 := B6.trans (b7.mono B6.size)
  obtain ⟨q0, q1, q2, q3, q4⟩ := l7.b.log
  clear l6 o6 B6 b7 CO
  go_wp2_with fail
  have hcp := HCP.out w7 o7.rd
  unfold recC at hcp
  dsimp only at hcp
  rw [HYL.out] at hcp
  refine hcp.mono ?_
  rintro e w8 ⟨pa, pc, rfl, _, _, b8⟩
  have l8 := l7.keep b8
  have o8 := o7.keep b8 o7.lt
  have B8 := B7.trans (b8.mono B7.size)
  clear l7 o7 B7 b8 q0 q1 q2 q3 q4 hcp
  obtain ⟨q0, q1, q2, q3, q4⟩ := l8.b.log
  go_wp2_with fail
  refine (HCW.out w8 l8 o8.rd (EtCell.keep HG.out B8)).mono ?_
  rintro e w9 ⟨aR, nR, cR, faR, mR, fcR, qsR, rfl, hndR, hqlR, b9⟩
  unfold WrA.D at hndR ⊢
  dsimp only at hndR ⊢
  have l9 := l8.keep b9
  have B9 := B8.trans (b9.mono B8.size)
  clear l8 o8 B8 q0 q1 q2 q3 q4
  by_cases hb0 : blk < 0
  · have hRR := HNEG.out hb0
    subst hRR
    go_wp2
    go_ret
    exact ⟨rfl, B9.trans (((Below.refl _ w9).alloc (Nat.le_refl _) _).mono B9.size)⟩
  obtain ⟨k, R', hk, hkl, hn0, hn8, hRe, hcd, had, hdn, hlg, hdv, hat⟩ := HPOS.out (by omega)
  subst hk
  have hRe2 : R = R' := hRe
  subst hRe2
  obtain ⟨⟨dsR, opR, dnR⟩, mrR, adR, cdR⟩ := R
  dsimp only at hcd had hdn hlg hdv hat hndR ⊢
  subst hcd had hdn
  obtain ⟨sqR, hsqR⟩ : ∃ z, WrA.sq ⟨⟨dsR, opR, true⟩, mrR, -1, 10⟩ seq = z := ⟨_, rfl⟩
  rw [hsqR] at hlg ⊢
  clear hsqR hRe
  obtain ⟨pg, hpg⟩ : ∃ p : Nat, nextD ds (k : Int) = (p : Int) := ⟨(nextD ds (k : Int)).toNat, by omega⟩
  rw [hpg] at hn8 hat
  have hk24 : k < 24 := by omega
  have hDR : qsR.map BkR.D = dsR := hndR.bs.D
  have hfR : FR w9 faR mR [⟨op, 2, (kk : Int)⟩] := OwnFa.fr hndR.fs (by have := OwnE.len hndR.fs; simp at this; omega)
  have hcR : CR w9 aR nR qsR := hndR.cr hqlR (devB_tot hdv)
  have b10 : Below w9.heap.size w9 (w9.alloc (.cells #[.slice aR nR cR, .int .i64 opR, .slice faR mR fcR, .bool true, .int .i64 sqR] 55)) := (Below.refl _ _).alloc (Nat.le_refl _) _
  have l10 := l9.keep b10
  have x10 : LK (w9.alloc (.cells #[.slice aR nR cR, .int .i64 opR, .slice faR mR fcR, .bool true, .int .i64 sqR] 55)) w9.heap.size aR nR cR opR faR mR fcR true sqR qsR [⟨op, 2, (kk : Int)⟩] := ⟨hcR.keep b10, hfR.keep b10, Blk.new w9 _ _⟩
  have B10 := B9.trans (b10.mono B9.size)
  have hbt := HBTW.out
  dsimp only at hbt
  have CR1 := fun (W : World) (h : CR W aR nR qsR) => readAtI aR nR cR qsR opR faR mR fcR true sqR ((k : Int) * 8 + (pg : Int)) 2 W h (by rw [hDR]; exact hbt) (by omega)
  have CL := fun (W : World) (h : CR W aR nR qsR) (hf : FR W faR mR [⟨op, 2, (kk : Int)⟩]) => logOkI aR nR cR qsR opR faR mR fcR [⟨op, 2, (kk : Int)⟩] true sqR W h hf (by rw [hDR]; exact hbt)
  have cn := HCN.out _ l10.c (k : Int)
  rw [hpg] at cn
  rw [hDR] at CR1 CL
  rw [hlg] at CL
  rw [hat] at CR1
  obtain ⟨rr, hrr⟩ : ∃ z, atRec dsR ((k : Int) * 8 + (pg : Int)) 2 = z := ⟨_, rfl⟩
  rw [hrr] at CR1
  have HCR1 : Hid _ := CR1
  have HCL : Hid _ := CL
  have hwm : IntKind.i64.wrap ((k : Int) * 8) = (k : Int) * 8 := wrap_small _ (by omega) (by omega)
  have hwa : IntKind.i64.wrap ((k : Int) * 8 + (pg : Int)) = (k : Int) * 8 + (pg : Int) := wrap_small _ (by omega) (by omega)
  have hk0 : ¬ (k : Int) < 0 := by omega
  have hlen : (0 : Int) < (nz : Int) := by omega
  have hln : 0 < nz := by omega
  clear CR1 CL hDR hfR hcR b10 l9 B9 hndR hqlR hbt hlg hat hrr HCP HCW HNEG HPOS HBTW hb0 hn0
  obtain ⟨q0, q1, q2, q3, q4⟩ := l10.b.log
  go_wp2_with fail
  refine cn.mono ?_
  rintro e w11 ⟨rfl, b11⟩
  have x11 := x10.keep b11
  have B11 := B10.trans (b11.mono B10.size)
  clear l10 x10 B10 b11 q0 q1 q2 q3 q4 cn
  obtain ⟨XX, hXX⟩ : ∃ X, w9.heap.size = X := ⟨_, rfl⟩
  rw [hXX] at x11
  try rw [hXX]
  clear hXX
  obtain ⟨q0, q1, q2, q3, q4⟩ := x11.b.log
  go_wp2_with fail
  refine (HCR1.out w11 x11.c).mono ?_
  rintro e w12 ⟨⟨ga, gc, he, _, _⟩, b12⟩
  obtain ⟨rk, rs, rb⟩ := rr
  unfold recC at he
  dsimp only at he
  obtain ⟨rl, hrl⟩ : ∃ z, rb.length = z := ⟨_, rfl⟩
  rw [hrl] at he
  subst he
  clear hrl
  have b13 : Below w12.heap.size w12 (w12.alloc (.cells #[.int .i64 rk, .int .i64 rs, .slice ga rl gc] 61)) := (Below.refl _ _).alloc (Nat.le_refl _) _
  have x13 := (x11.keep b12).keep b13
  have B13 := (B11.trans (b12.mono B11.size)).trans (b13.mono (B11.trans (b12.mono B11.size)).size)
  clear x11 B11 b12 b13 q0 q1 q2 q3 q4
  obtain ⟨q0, q1, q2, q3, q4⟩ := x13.b.log
  have cl := HCL.out _ x13.c x13.f
  by_cases hq : (nz : Int) ≤ (kk : Int)
  · have hqd : decide ((nz : Int) ≤ (kk : Int)) = true := by simpa using hq
    rw [hqd]
    have hqn : nz ≤ kk := by omega
    go_wp2_with fail
    refine cl.mono ?_
    rintro e w14 ⟨rfl, b14⟩
    have B14 := B13.trans (b14.mono B13.size)
    go_wp2
    go_ret
    exact ⟨by simp, B14⟩
  · have hqd : decide ((nz : Int) ≤ (kk : Int)) = false := by simpa using hq
    rw [hqd]
    have hqn : ¬ nz ≤ kk := by omega
    go_wp2_with fail
    refine cl.mono ?_
    rintro e w14 ⟨rfl, b14⟩
    have B14 := B13.trans (b14.mono B13.size)
    go_wp2
    go_ret
    exact ⟨by simp, B14⟩
end

section
open Go.RowKit
def ByteRow (w : World) (a : Option Addr) (len cap : Nat) (zs : List Int) : Prop :=
  (a = none ∧ len = 0 ∧ cap = 0 ∧ zs = []) ∨ ∃ x, a = some x ∧ len ≤ cap ∧ cap ≤ maxLen ∧ zs.length = cap ∧ (∀ i, i < zs.length → w.cell? (x.add i) = some (.int .u8 (zs.getD i 0))) ∧ ∀ n ∈ zs, (Lit.int .u8 n).wf = true
theorem walkFnTornPage (a0 : Option Addr) (len0 cap0 : Nat) (z0 : List Int) (w : World) (hbr : ByteRow w a0 len0 cap0 z0) (hg : EtCell w) :
    Calls Tryz.prog 8 #[.slice a0 len0 cap0] w fun e w' => e = .returned (.bool true) ∧ Below w.heap.size w w' := by
  obtain ⟨zs, hn, hr, hb⟩ := rd_of_row hbr
  exact walkTorn a0 len0 cap0 zs w hn hr hb hg
end
end Go.Proofs.YtoeeblmnogeonaaGreatDoor
