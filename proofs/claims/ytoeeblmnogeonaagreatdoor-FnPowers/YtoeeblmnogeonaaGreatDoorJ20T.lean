/-
  Joined: LogC, LogS, LogX, PutText.
-/
import Derived.Test.YtoeeblmnogeonaaGreatDoorJ19T
import Derived.WalkMore
namespace Go.Proofs.YtoeeblmnogeonaaGreatDoor
section
open Go.RowKit
theorem Blk.log {W : World} {H : Nat} {t : TypeId} {v0 v1 v2 v3 v4 : Value} (h : Blk W H t #[v0, v1, v2, v3, v4]) : W.cell? ⟨H, 0, none⟩ = some v0 ∧ W.cell? ⟨H, 1, none⟩ = some v1 ∧ W.cell? ⟨H, 2, none⟩ = some v2 ∧ W.cell? ⟨H, 3, none⟩ = some v3 ∧ W.cell? ⟨H, 4, none⟩ = some v4 := ⟨h.cell 0, h.cell 1, h.cell 2, h.cell 3, h.cell 4⟩
/-- A new log was answered. -/
def LgA (w : World) (D : DvD) (seq : Int) (e : Ending) (w' : World) : Prop := ∃ a n c fa m fc qs, e = .returned (.agg #[.slice a n c, .int .i64 D.ops, .slice fa m fc, .bool D.down, .int .i64 seq]) ∧ NewDv w' w.heap.size a n c fa m fc D.ds D.fs qs ∧ qs.length = n ∧ Below w.heap.size w w'
set_option maxRecDepth 100000 in
set_option maxHeartbeats 8000000 in
theorem copyLogI (a : Option Addr) (n cap : Nat) (bs : List BkR) (ops : Int) (fa : Option Addr) (m fc : Nat) (fs : List FtD) (down : Bool) (seq : Int) (w : World) (ht : CR w a n bs) (hf : FR w fa m fs) :
    Calls Tryz.prog 74 #[.agg #[.slice a n cap, .int .i64 ops, .slice fa m fc, .bool down, .int .i64 seq]] w (LgA w ⟨bs.map BkR.D, ops, fs, down⟩ seq) := by
  have B0 : Below w.heap.size w ((w.alloc (.cells #[.slice a n cap, .int .i64 ops, .slice fa m fc, .bool down, .int .i64 seq] 55)).alloc (.cells #[.slice none 0 0, .int .i64 0, .slice none 0 0, .bool false, .int .i64 0] 55)) := ((Below.refl _ w).alloc (Nat.le_refl _) _).alloc (by simp) _
  have z0 := (Blk.new w 55 #[.slice a n cap, .int .i64 ops, .slice fa m fc, .bool down, .int .i64 seq]).alloc (.cells #[.slice none 0 0, .int .i64 0, .slice none 0 0, .bool false, .int .i64 0] 55)
  have z1 := Blk.new (w.alloc (.cells #[.slice a n cap, .int .i64 ops, .slice fa m fc, .bool down, .int .i64 seq] 55)) 55 #[.slice none 0 0, .int .i64 0, .slice none 0 0, .bool false, .int .i64 0]
  simp only [World.size_alloc] at z1
  obtain ⟨H, hH⟩ : ∃ H, w.heap.size = H := ⟨_, rfl⟩
  rw [hH] at z0 z1
  generalize hGP : LgA w ⟨bs.map BkR.D, ops, fs, down⟩ seq = P
  have HGP : Hid _ := hGP
  clear hGP
  go_enter Tryz.func74, Tryz.ntmps74
  go_upto_region 1 with fail
  obtain ⟨W0, hW0⟩ : ∃ W, (w.alloc (.cells #[.slice a n cap, .int .i64 ops, .slice fa m fc, .bool down, .int .i64 seq] 55)).alloc (.cells #[.slice none 0 0, .int .i64 0, .slice none 0 0, .bool false, .int .i64 0] 55) = W := ⟨_, rfl⟩
  rw [hW0] at B0 z0 z1 ⊢
  clear hW0
  have HD : Hid (Below w.heap.size w W0.drew) := B0.drew
  have HZ0 : Hid (Blk W0.drew H 55 #[.slice a n cap, .int .i64 ops, .slice fa m fc, .bool down, .int .i64 seq]) := z0.keep (Below.refl _ _).drew
  have HZ1 : Hid (Blk W0.drew (H + 1) 55 #[.slice none 0 0, .int .i64 0, .slice none 0 0, .bool false, .int .i64 0]) := z1.keep (Below.refl _ _).drew
  have hc0 := copyDevI a n cap bs ops fa m fc fs down W0.drew (ht.keep HD.out) (hf.keep HD.out)
  have hall : Hid (∀ W : World, Below W0.drew.heap.size W0.drew W → W.cell? ⟨H, 0, none⟩ = some (.slice a n cap) ∧ W.cell? ⟨H, 1, none⟩ = some (.int .i64 ops) ∧ W.cell? ⟨H, 2, none⟩ = some (.slice fa m fc) ∧ W.cell? ⟨H, 3, none⟩ = some (.bool down) ∧ W.cell? ⟨H, 4, none⟩ = some (.int .i64 seq)) := fun W hW => (Blk.keep HZ0.out hW).log
  obtain ⟨s0, s1, s2, s3, s4⟩ := hall.out W0.drew (Below.refl _ _)
  clear ht hf B0 z0 z1
  refine wp_region_noPanic ?_
  refine wp_region_last (fun W : World => W.cell? ⟨H, 0, none⟩ = some (.slice a n cap) ∧ W.cell? ⟨H, 1, none⟩ = some (.int .i64 ops) ∧ W.cell? ⟨H, 2, none⟩ = some (.slice fa m fc) ∧ W.cell? ⟨H, 3, none⟩ = some (.bool down) ∧ W.cell? ⟨H, 4, none⟩ = some (.int .i64 seq)) 6 (by kernel_rfl) (by kernel_rfl) (by go_keep) 6 (by kernel_rfl) (fun hS => ?_)
  refine wpAnyH_take (i := 0) (v := ?gv1) rfl (by kernel_rfl) (by kernel_rfl) (by kernel_rfl) (fun _ _ _ h => h) (Or.inl ⟨by kernel_rfl, ?gy1⟩) (by assumption) ?gr1
  case gy1 => (intro w' hSw; (try dsimp only at hSw); go_simp; (try with_reducible rfl))
  try simp only [Act.put, List.setIfInBounds_toArray, List.set_cons_zero, List.set_cons_succ, List.getElem_toArray, List.getElem_cons_zero]
  refine wpAnyH_take (i := 1) (v := ?gv2) rfl (by kernel_rfl) (by kernel_rfl) (by kernel_rfl) (fun _ _ _ h => h) (Or.inl ⟨by kernel_rfl, ?gy2⟩) (by assumption) ?gr2
  case gy2 => (intro w' hSw; (try dsimp only at hSw); go_simp; (try with_reducible rfl))
  try simp only [Act.put, List.setIfInBounds_toArray, List.set_cons_zero, List.set_cons_succ, List.getElem_toArray, List.getElem_cons_succ, List.getElem_cons_zero]
  refine wpAnyH_take (i := 3) (v := ?gv3) rfl (by kernel_rfl) (by kernel_rfl) (by kernel_rfl) (fun _ _ _ h => h) (Or.inl ⟨by kernel_rfl, ?gy3⟩) (by assumption) ?gr3
  case gy3 => (intro w' hSw; (try dsimp only at hSw); go_simp; (try with_reducible rfl))
  try simp only [Act.put, List.setIfInBounds_toArray, List.set_cons_zero, List.set_cons_succ, List.getElem_toArray, List.getElem_cons_succ, List.getElem_cons_zero]
  refine wpAnyH_take (i := 4) (v := ?gv4) rfl (by kernel_rfl) (by kernel_rfl) (by kernel_rfl) (fun _ _ _ h => h) (Or.inl ⟨by kernel_rfl, ?gy4⟩) (by assumption) ?gr4
  case gy4 => (intro w' hSw; (try dsimp only at hSw); go_simp; (try with_reducible rfl))
  try simp only [Act.put, List.setIfInBounds_toArray, List.set_cons_zero, List.set_cons_succ, List.getElem_toArray, List.getElem_cons_succ, List.getElem_cons_zero]
  refine wpAnyH_ready (rs := [2]) (by kernel_rfl) (by simp) ?_
  refine AllReadyH.cons rfl (fun K hK => ?_) AllReadyH.nil
  go_simp
  (with_reducible refine hc0.mono ?_)
  rintro e W9 ⟨a1, n1, c1, fa1, m1, fc1, qs, rfl, hq, hql, b1⟩
  have HND : Hid (NewDv W9 W0.drew.heap.size a1 n1 c1 fa1 m1 fc1 (bs.map BkR.D) fs qs ∧ qs.length = n1 ∧ Below W0.drew.heap.size W0.drew W9) := ⟨hq, hql, b1⟩
  clear hq hql b1
  have zr := Blk.keep HZ1.out HND.out.2.2
  obtain ⟨r0, r1, r2, r3, r4⟩ := zr.log
  have f0 := zr.frozen 0
  have f1 := zr.frozen 1
  have f2 := zr.frozen 2
  have f3 := zr.frozen 3
  have f4 := zr.frozen 4
  dsimp only
  clear hS
  try dsimp only
  refine Shut.out hK _ _ (hall.out W9 HND.out.2.2) (fun hS => ?_)
  try simp only [Act.put, List.setIfInBounds_toArray, List.set_cons_zero, List.set_cons_succ, List.getElem_toArray, List.getElem_cons_succ, List.getElem_cons_zero]
  refine wpAnyH_take (i := 5) (v := ?gv5) rfl (by kernel_rfl) (by kernel_rfl) (by kernel_rfl) (fun _ _ _ h => h) (Or.inl ⟨by kernel_rfl, ?gy5⟩) (by assumption) ?gr5
  case gy5 => (intro w' hSw; (try dsimp only at hSw); go_simp; (try with_reducible rfl))
  try simp only [Act.put, List.setIfInBounds_toArray, List.set_cons_zero, List.set_cons_succ, List.getElem_toArray, List.getElem_cons_succ, List.getElem_cons_zero]
  refine wpAnyH_done (by kernel_rfl) ?_ _
  refine wpOp_last rfl (fun K hK => ?_)
  clear hS
  go_simp
  refine Shut.out hK _ _ (NoPanic.normal ?_)
  all_goals (
    have zf := ((((zr.set 0 (.slice a1 n1 c1)).set 1 (.int .i64 ops)).set 2 (.slice fa1 m1 fc1)).set 3 (.bool down)).set 4 (.int .i64 seq)
    have d0 := zf.cell 0
    have d1 := zf.cell 1
    have d2 := zf.cell 2
    have d3 := zf.cell 3
    have d4 := zf.cell 4
    simp at d0 d1 d2 d3 d4
    clear zr zf r0 r1 r2 r3 r4 f0 f1 f2 f3 f4 hc0 s0 s1 s2 s3 s4
    go_wp2
    refine bodyPost_ret (v := .agg #[.slice a1 n1 c1, .int .i64 ops, .slice fa1 m1 fc1, .bool down, .int .i64 seq]) (by simp [results, Tryz.f74, go_sem, d0, d1, d2, d3, d4]) rfl ?_
    rw [← HGP.out]
    obtain ⟨hd, hl, hb⟩ := HND.out
    have h1 : H + 1 < W0.drew.heap.size := HZ1.out.lt
    have bel : Below w.heap.size w W9 := HD.out.trans (hb.mono HD.out.size)
    have s : ∀ (W : World) (i : Nat) (v : Value), Below w.heap.size w W → Below w.heap.size w (W.setCell ⟨H + 1, i, none⟩ v) := fun W i v hb => hb.setCell (p := ⟨H + 1, i, none⟩) (by simp only; omega) v
    exact ⟨a1, n1, c1, fa1, m1, fc1, qs, rfl, (((((hd.set_below h1).set_below h1).set_below h1).set_below h1).set_below h1).wider HD.out.size, hl, s _ _ _ (s _ _ _ (s _ _ _ (s _ _ _ (s _ _ _ bel))))⟩)
set_option maxRecDepth 100000 in
set_option maxHeartbeats 8000000 in
theorem copyLogS (a : Option Addr) (n cap : Nat) (bs : List BkR) (ops : Int) (fa : Option Addr) (m fc : Nat) (fs : List FtD) (down : Bool) (seq : Int) (w : World) (ht : CR w a n bs) (hf : FR w fa m fs) :
    Calls Tryz.prog 77 #[.agg #[.slice a n cap, .int .i64 ops, .slice fa m fc, .bool down, .int .i64 seq]] w (LgA w ⟨bs.map BkR.D, ops, fs, down⟩ seq) := by
  have B0 : Below w.heap.size w ((w.alloc (.cells #[.slice a n cap, .int .i64 ops, .slice fa m fc, .bool down, .int .i64 seq] 55)).alloc (.cells #[.slice none 0 0, .int .i64 0, .slice none 0 0, .bool false, .int .i64 0] 55)) := ((Below.refl _ w).alloc (Nat.le_refl _) _).alloc (by simp) _
  have z0 := (Blk.new w 55 #[.slice a n cap, .int .i64 ops, .slice fa m fc, .bool down, .int .i64 seq]).alloc (.cells #[.slice none 0 0, .int .i64 0, .slice none 0 0, .bool false, .int .i64 0] 55)
  have z1 := Blk.new (w.alloc (.cells #[.slice a n cap, .int .i64 ops, .slice fa m fc, .bool down, .int .i64 seq] 55)) 55 #[.slice none 0 0, .int .i64 0, .slice none 0 0, .bool false, .int .i64 0]
  simp only [World.size_alloc] at z1
  obtain ⟨H, hH⟩ : ∃ H, w.heap.size = H := ⟨_, rfl⟩
  rw [hH] at z0 z1
  generalize hGP : LgA w ⟨bs.map BkR.D, ops, fs, down⟩ seq = P
  have HGP : Hid _ := hGP
  clear hGP
  go_enter Tryz.func77, Tryz.ntmps77
  go_upto_region 1 with fail
  obtain ⟨W0, hW0⟩ : ∃ W, (w.alloc (.cells #[.slice a n cap, .int .i64 ops, .slice fa m fc, .bool down, .int .i64 seq] 55)).alloc (.cells #[.slice none 0 0, .int .i64 0, .slice none 0 0, .bool false, .int .i64 0] 55) = W := ⟨_, rfl⟩
  rw [hW0] at B0 z0 z1 ⊢
  clear hW0
  have HD : Hid (Below w.heap.size w W0.drew) := B0.drew
  have HZ0 : Hid (Blk W0.drew H 55 #[.slice a n cap, .int .i64 ops, .slice fa m fc, .bool down, .int .i64 seq]) := z0.keep (Below.refl _ _).drew
  have HZ1 : Hid (Blk W0.drew (H + 1) 55 #[.slice none 0 0, .int .i64 0, .slice none 0 0, .bool false, .int .i64 0]) := z1.keep (Below.refl _ _).drew
  have hc0 := copyDevS a n cap bs ops fa m fc fs down W0.drew (ht.keep HD.out) (hf.keep HD.out)
  have hall : Hid (∀ W : World, Below W0.drew.heap.size W0.drew W → W.cell? ⟨H, 0, none⟩ = some (.slice a n cap) ∧ W.cell? ⟨H, 1, none⟩ = some (.int .i64 ops) ∧ W.cell? ⟨H, 2, none⟩ = some (.slice fa m fc) ∧ W.cell? ⟨H, 3, none⟩ = some (.bool down) ∧ W.cell? ⟨H, 4, none⟩ = some (.int .i64 seq)) := fun W hW => (Blk.keep HZ0.out hW).log
  obtain ⟨s0, s1, s2, s3, s4⟩ := hall.out W0.drew (Below.refl _ _)
  clear ht hf B0 z0 z1
  refine wp_region_noPanic ?_
  refine wp_region_last (fun W : World => W.cell? ⟨H, 0, none⟩ = some (.slice a n cap) ∧ W.cell? ⟨H, 1, none⟩ = some (.int .i64 ops) ∧ W.cell? ⟨H, 2, none⟩ = some (.slice fa m fc) ∧ W.cell? ⟨H, 3, none⟩ = some (.bool down) ∧ W.cell? ⟨H, 4, none⟩ = some (.int .i64 seq)) 6 (by kernel_rfl) (by kernel_rfl) (by go_keep) 6 (by kernel_rfl) (fun hS => ?_)
  refine wpAnyH_take (i := 0) (v := ?gv6) rfl (by kernel_rfl) (by kernel_rfl) (by kernel_rfl) (fun _ _ _ h => h) (Or.inl ⟨by kernel_rfl, ?gy6⟩) (by assumption) ?gr6
  case gy6 => (intro w' hSw; (try dsimp only at hSw); go_simp; (try with_reducible rfl))
  try simp only [Act.put, List.setIfInBounds_toArray, List.set_cons_zero, List.set_cons_succ, List.getElem_toArray, List.getElem_cons_zero]
  refine wpAnyH_take (i := 1) (v := ?gv7) rfl (by kernel_rfl) (by kernel_rfl) (by kernel_rfl) (fun _ _ _ h => h) (Or.inl ⟨by kernel_rfl, ?gy7⟩) (by assumption) ?gr7
  case gy7 => (intro w' hSw; (try dsimp only at hSw); go_simp; (try with_reducible rfl))
  try simp only [Act.put, List.setIfInBounds_toArray, List.set_cons_zero, List.set_cons_succ, List.getElem_toArray, List.getElem_cons_succ, List.getElem_cons_zero]
  refine wpAnyH_take (i := 3) (v := ?gv8) rfl (by kernel_rfl) (by kernel_rfl) (by kernel_rfl) (fun _ _ _ h => h) (Or.inl ⟨by kernel_rfl, ?gy8⟩) (by assumption) ?gr8
  case gy8 => (intro w' hSw; (try dsimp only at hSw); go_simp; (try with_reducible rfl))
  try simp only [Act.put, List.setIfInBounds_toArray, List.set_cons_zero, List.set_cons_succ, List.getElem_toArray, List.getElem_cons_succ, List.getElem_cons_zero]
  refine wpAnyH_take (i := 4) (v := ?gv9) rfl (by kernel_rfl) (by kernel_rfl) (by kernel_rfl) (fun _ _ _ h => h) (Or.inl ⟨by kernel_rfl, ?gy9⟩) (by assumption) ?gr9
  case gy9 => (intro w' hSw; (try dsimp only at hSw); go_simp; (try with_reducible rfl))
  try simp only [Act.put, List.setIfInBounds_toArray, List.set_cons_zero, List.set_cons_succ, List.getElem_toArray, List.getElem_cons_succ, List.getElem_cons_zero]
  refine wpAnyH_ready (rs := [2]) (by kernel_rfl) (by simp) ?_
  refine AllReadyH.cons rfl (fun K hK => ?_) AllReadyH.nil
  go_simp
  (with_reducible refine hc0.mono ?_)
  rintro e W9 ⟨a1, n1, c1, fa1, m1, fc1, qs, rfl, hq, hql, b1⟩
  have HND : Hid (NewDv W9 W0.drew.heap.size a1 n1 c1 fa1 m1 fc1 (bs.map BkR.D) fs qs ∧ qs.length = n1 ∧ Below W0.drew.heap.size W0.drew W9) := ⟨hq, hql, b1⟩
  clear hq hql b1
  have zr := Blk.keep HZ1.out HND.out.2.2
  obtain ⟨r0, r1, r2, r3, r4⟩ := zr.log
  have f0 := zr.frozen 0
  have f1 := zr.frozen 1
  have f2 := zr.frozen 2
  have f3 := zr.frozen 3
  have f4 := zr.frozen 4
  dsimp only
  clear hS
  try dsimp only
  refine Shut.out hK _ _ (hall.out W9 HND.out.2.2) (fun hS => ?_)
  try simp only [Act.put, List.setIfInBounds_toArray, List.set_cons_zero, List.set_cons_succ, List.getElem_toArray, List.getElem_cons_succ, List.getElem_cons_zero]
  refine wpAnyH_take (i := 5) (v := ?gv10) rfl (by kernel_rfl) (by kernel_rfl) (by kernel_rfl) (fun _ _ _ h => h) (Or.inl ⟨by kernel_rfl, ?gy10⟩) (by assumption) ?gr10
  case gy10 => (intro w' hSw; (try dsimp only at hSw); go_simp; (try with_reducible rfl))
  try simp only [Act.put, List.setIfInBounds_toArray, List.set_cons_zero, List.set_cons_succ, List.getElem_toArray, List.getElem_cons_succ, List.getElem_cons_zero]
  refine wpAnyH_done (by kernel_rfl) ?_ _
  refine wpOp_last rfl (fun K hK => ?_)
  clear hS
  go_simp
  refine Shut.out hK _ _ (NoPanic.normal ?_)
  all_goals (
    have zf := ((((zr.set 0 (.slice a1 n1 c1)).set 1 (.int .i64 ops)).set 2 (.slice fa1 m1 fc1)).set 3 (.bool down)).set 4 (.int .i64 seq)
    have d0 := zf.cell 0
    have d1 := zf.cell 1
    have d2 := zf.cell 2
    have d3 := zf.cell 3
    have d4 := zf.cell 4
    simp at d0 d1 d2 d3 d4
    clear zr zf r0 r1 r2 r3 r4 f0 f1 f2 f3 f4 hc0 s0 s1 s2 s3 s4
    go_wp2
    refine bodyPost_ret (v := .agg #[.slice a1 n1 c1, .int .i64 ops, .slice fa1 m1 fc1, .bool down, .int .i64 seq]) (by simp [results, Tryz.f77, go_sem, d0, d1, d2, d3, d4]) rfl ?_
    rw [← HGP.out]
    obtain ⟨hd, hl, hb⟩ := HND.out
    have h1 : H + 1 < W0.drew.heap.size := HZ1.out.lt
    have bel : Below w.heap.size w W9 := HD.out.trans (hb.mono HD.out.size)
    have s : ∀ (W : World) (i : Nat) (v : Value), Below w.heap.size w W → Below w.heap.size w (W.setCell ⟨H + 1, i, none⟩ v) := fun W i v hb => hb.setCell (p := ⟨H + 1, i, none⟩) (by simp only; omega) v
    exact ⟨a1, n1, c1, fa1, m1, fc1, qs, rfl, (((((hd.set_below h1).set_below h1).set_below h1).set_below h1).set_below h1).wider HD.out.size, hl, s _ _ _ (s _ _ _ (s _ _ _ (s _ _ _ (s _ _ _ bel))))⟩)
end

section
open Go.RowKit
theorem freeB_eq' (r : BkR) : freeB r.D = (!r.bad && decide (nextP (r.ps.map PgR.D) = 0)) := rfl
theorem begB_eq' (r : BkR) : begB r.D = (!r.bad && (decide (0 < nextP (r.ps.map PgR.D)) && decide (nextP (r.ps.map PgR.D) < r.ps.length))) := by
  have h : (r.ps.map PgR.D).length = r.ps.length := List.length_map ..
  rw [← h]
  rfl
theorem fstD_snoc (p : BkD → Bool) (ds : List BkD) (b : BkD) : fstD p (ds ++ [b]) = if 0 ≤ fstD p ds then fstD p ds else if p b then (ds.length : Int) else -1 := by
  unfold fstD
  rw [List.findIdx?_append]
  cases h : ds.findIdx? p with
  | some k => simp
  | none =>
    cases hb : p b
    · simp [List.findIdx?_cons, hb]
    · simp [List.findIdx?_cons, hb]
theorem fstD_take {p : BkD → Bool} {bs : List BkR} {k : Nat} {r : BkR} (h : bs[k]? = some r) : fstD p ((bs.take (k + 1)).map BkR.D) = if 0 ≤ fstD p ((bs.take k).map BkR.D) then fstD p ((bs.take k).map BkR.D) else if p r.D then (k : Int) else -1 := by
  have hl : ((bs.take k).map BkR.D).length = k := by
    have := (List.getElem?_eq_some_iff.1 h).1
    simp; omega
  rw [List.take_add_one, h]
  simp only [Option.toList_some, List.map_append, List.map_cons, List.map_nil]
  rw [fstD_snoc, hl]
set_option maxRecDepth 100000 in
set_option maxHeartbeats 4000000 in
theorem freeS (a : Option Addr) (n cap : Nat) (bs : List BkR) (ops : Int) (fa : Option Addr) (m fc : Nat) (down : Bool) (seq : Int) (w : World) (ht : CR w a n bs) :
    Calls Tryz.prog 137 #[.agg #[.slice a n cap, .int .i64 ops, .slice fa m fc, .bool down, .int .i64 seq]] w fun e w' => e = .returned (.int .i64 (freeD (bs.map BkR.D) : Nat)) ∧ Below w.heap.size w w' := by
  have B0 : Below w.heap.size w (w.alloc (.cells #[.slice a n cap, .int .i64 ops, .slice fa m fc, .bool down, .int .i64 seq] 55)) := (Below.refl _ w).alloc (Nat.le_refl _) _
  have z0 := Blk.new w 55 #[.slice a n cap, .int .i64 ops, .slice fa m fc, .bool down, .int .i64 seq]
  have HT : Hid _ := ht.keep B0
  have HB : Hid _ := B0
  have hn1 := ht.n
  have hln : Hid (bs.length = n) := ht.len
  clear ht B0
  obtain ⟨H, hH⟩ : ∃ H, w.heap.size = H := ⟨_, rfl⟩
  rw [hH] at z0
  go_enter Tryz.func137, Tryz.ntmps137
  go_wp2
  obtain ⟨W0, hW0⟩ : ∃ W, (w.alloc (.cells #[.slice a n cap, .int .i64 ops, .slice fa m fc, .bool down, .int .i64 seq] 55)) = W := ⟨_, rfl⟩
  rw [hW0] at HB HT z0 ⊢
  clear hW0
  try rw [hH]
  go_loopw [3, 4] (fun c i wr => ∃ (k f : Nat), k ≤ n ∧ i = .int .i64 k ∧ c = .int .i64 f ∧ f ≤ k ∧ Hid (freeD ((bs.take k).map BkR.D) = f) ∧ Hid (Below W0.heap.size W0 wr)) (fun _ i _ => n - (intOf i).toNat)
  case atStart => exact ⟨0, 0, Nat.zero_le _, rfl, rfl, Nat.le_refl _, rfl, Below.refl _ _⟩
  case round =>
    obtain ⟨k, f, hk, rfl, rfl, hfk, hf, hB⟩ := hrel
    have t0 := (z0.keep hB.out).cell 0
    simp at t0
    by_cases hkn : k < n
    · have hki : (k : Int) < (n : Int) := by omega
      obtain ⟨b, off, r, rfl, hlt, hrk, x3, hrp, htp⟩ := (HT.out.keep hB.out).some hkn
      obtain ⟨x0, x1, x2⟩ := x3
      have hnx := freeD_take hrk
      rw [hf.out] at hnx
      have hcall := l10NextS r.a r.ps.length r.cap r.wear r.bad r.ps wr rfl htp hrp
      have hbe : freeB r.D = (!r.bad && decide (nextP (r.ps.map PgR.D) = 0)) := rfl
      rw [hbe] at hnx
      have hle := nextP_le (r.ps.map PgR.D)
      have hpl := totP_len (r.ps.map PgR.D)
      simp only [List.length_map] at hle hpl
      obtain ⟨n1, hn1⟩ : ∃ n1, r.ps.length = n1 := ⟨_, rfl⟩
      rw [hn1] at x0 hcall hle hpl
      obtain ⟨q, hq⟩ : ∃ q, nextP (r.ps.map PgR.D) = q := ⟨_, rfl⟩
      rw [hq] at hcall hnx hle
      obtain ⟨bad, hba⟩ : ∃ x, r.bad = x := ⟨_, rfl⟩
      rw [hba] at x2 hcall hnx
      have HNX : Hid _ := hnx
      clear hrk hn1 hq hba hbe hnx hrp hf htp
      cases bad
      · by_cases h0 : q = 0
        · subst h0
          have HN : Hid (freeD ((bs.take (k + 1)).map BkR.D) = f + 1) := by show _ = _; rw [HNX.out]; rfl
          clear HNX
          go_wp2_with fail
          refine hcall.mono ?_
          rintro e w1 ⟨rfl, hb1⟩
          have hB' : Hid (Below W0.heap.size W0 w1) := hB.out.trans (hb1.mono hB.out.size)
          clear hcall hb1
          go_wp2
          go_roundw
          case rel => exact ⟨k + 1, f + 1, by omega, by go_num, by go_num, by omega, HN, hB'⟩
          case measure => simp [intOf]; omega
        · have h2 : ((q : Int) == 0) = false := by simpa using h0
          have h3 : ¬ (q : Int) = 0 := by omega
          have HN : Hid (freeD ((bs.take (k + 1)).map BkR.D) = f) := by show _ = _; rw [HNX.out]; simp [h0]
          clear HNX
          go_wp2_with fail
          refine hcall.mono ?_
          rintro e w1 ⟨rfl, hb1⟩
          have hB' : Hid (Below W0.heap.size W0 w1) := hB.out.trans (hb1.mono hB.out.size)
          clear hcall hb1
          go_wp2
          go_roundw
          case rel => exact ⟨k + 1, f, by omega, by go_num, rfl, by omega, HN, hB'⟩
          case measure => simp [intOf]; omega
      · have HN : Hid (freeD ((bs.take (k + 1)).map BkR.D) = f) := by show _ = _; rw [HNX.out]; rfl
        clear HNX
        go_wp2
        go_roundw
        case rel => exact ⟨k + 1, f, by omega, by go_num, rfl, by omega, HN, hB⟩
        case measure => simp [intOf]; omega
    · have hki : ¬ (k : Int) < (n : Int) := by omega
      go_wp2
      go_ret
      have := hf.out
      rw [List.take_of_length_le (by rw [hln.out]; omega)] at this
      rw [← hH]
      exact ⟨by rw [this]; rfl, HB.out.trans (hB.out.mono HB.out.size)⟩
set_option maxRecDepth 100000 in
set_option maxHeartbeats 8000000 in
theorem openS (a : Option Addr) (n cap : Nat) (bs : List BkR) (ops : Int) (fa : Option Addr) (m fc : Nat) (down : Bool) (seq spare : Int) (w : World) (ht : CR w a n bs) :
    Calls Tryz.prog 121 #[.agg #[.slice a n cap, .int .i64 ops, .slice fa m fc, .bool down, .int .i64 seq], .int .i64 spare] w fun e w' => e = .returned (.int .i64 (openD (bs.map BkR.D) spare)) ∧ Below w.heap.size w w' := by
  have B0 : Below w.heap.size w (w.alloc (.cells #[.slice a n cap, .int .i64 ops, .slice fa m fc, .bool down, .int .i64 seq] 55)) := (Below.refl _ w).alloc (Nat.le_refl _) _
  have z0 := Blk.new w 55 #[.slice a n cap, .int .i64 ops, .slice fa m fc, .bool down, .int .i64 seq]
  have HT : Hid _ := ht.keep B0
  have HB : Hid _ := B0
  have hn1 := ht.n
  have hln : Hid (bs.length = n) := ht.len
  have hop : Hid (∀ k : Int, 0 ≤ k → fstD begB (bs.map BkR.D) = k → openD (bs.map BkR.D) spare = k) := fun k hk h => by unfold openD; rw [h, if_pos hk]
  have hop2 : Hid (fstD begB (bs.map BkR.D) = -1 → openD (bs.map BkR.D) spare = if spare < (freeD (bs.map BkR.D) : Int) then fstD freeB (bs.map BkR.D) else -1) := fun h => by unfold openD; rw [h]; rfl
  have hca : ∀ W, Below (w.alloc (.cells #[.slice a n cap, .int .i64 ops, .slice fa m fc, .bool down, .int .i64 seq] 55)).heap.size (w.alloc (.cells #[.slice a n cap, .int .i64 ops, .slice fa m fc, .bool down, .int .i64 seq] 55)) W → CR W a n bs := fun W h => (ht.keep B0).keep h
  have cN := fun W h => freeS a n cap bs ops fa m fc down seq W (hca W h)
  have CN : Hid _ := cN
  have hfl := freeD_le (bs.map BkR.D)
  rw [List.length_map, ht.len] at hfl
  clear ht B0 hca cN
  obtain ⟨H, hH⟩ : ∃ H, w.heap.size = H := ⟨_, rfl⟩
  rw [hH] at z0
  go_enter Tryz.func121, Tryz.ntmps121
  go_wp2
  obtain ⟨W0, hW0⟩ : ∃ W, (w.alloc (.cells #[.slice a n cap, .int .i64 ops, .slice fa m fc, .bool down, .int .i64 seq] 55)) = W := ⟨_, rfl⟩
  rw [hW0] at HB HT z0 CN ⊢
  clear hW0
  try rw [hH]
  go_loopw [5, 6] (fun c i wr => ∃ (k : Nat) (kf : Int), k ≤ n ∧ i = .int .i64 k ∧ c = .int .i64 kf ∧ Hid (fstD freeB ((bs.take k).map BkR.D) = kf) ∧ Hid (∀ (j : Nat) (q : BkR), j < k → bs[j]? = some q → begB q.D = false) ∧ Hid (Below W0.heap.size W0 wr) ∧ -1 ≤ kf ∧ kf < (n : Int)) (fun _ i _ => n - (intOf i).toNat)
  case atStart => exact ⟨0, -1, Nat.zero_le _, rfl, rfl, rfl, fun j q hj => by omega, Below.refl _ _, by omega, by omega⟩
  case round =>
    obtain ⟨k, kf, hk, rfl, rfl, hf, hall, hB, hf0, hfn⟩ := hrel
    have z1 := z0.keep hB.out
    have t0 := z1.cell 0
    simp at t0
    by_cases hkn : k < n
    · have hki : (k : Int) < (n : Int) := by omega
      obtain ⟨b, off, r, rfl, hlt, hrk, x3, hrp, htp⟩ := (HT.out.keep hB.out).some hkn
      obtain ⟨x0, x1, x2⟩ := x3
      have hnx := fstD_take (p := freeB) hrk
      rw [hf.out, freeB_eq' r] at hnx
      have hend : Hid (begB r.D = true → openD (bs.map BkR.D) spare = (k : Int)) := fun he => hop.out k (by omega) (fstD_at hrk he hall.out)
      have hno : Hid (begB r.D = false → ∀ (j : Nat) (q : BkR), j < k + 1 → bs[j]? = some q → begB q.D = false) := by
        intro he j q hj hq
        rcases (show j < k ∨ j = k by omega) with h | rfl
        · exact hall.out j q h hq
        · rw [hrk] at hq
          simp at hq
          rw [← hq]
          exact he
      have hbe := begB_eq' r
      have hle := nextP_le (r.ps.map PgR.D)
      have hpl := totP_len (r.ps.map PgR.D)
      simp only [List.length_map] at hle hpl
      obtain ⟨n1, hn1⟩ : ∃ n1, r.ps.length = n1 := ⟨_, rfl⟩
      obtain ⟨wear, hwe⟩ : ∃ x, r.wear = x := ⟨_, rfl⟩
      obtain ⟨bad, hba⟩ : ∃ x, r.bad = x := ⟨_, rfl⟩
      obtain ⟨ra, hra⟩ : ∃ x, r.a = x := ⟨_, rfl⟩
      obtain ⟨rc, hrc⟩ : ∃ x, r.cap = x := ⟨_, rfl⟩
      have hbA : Below wr.heap.size wr (wr.alloc (.cells #[.slice ra n1 rc, .int .i64 wear, .bool bad] 42)) := (Below.refl _ wr).alloc (Nat.le_refl _) _
      have y0 := Blk.new wr 42 #[.slice ra n1 rc, .int .i64 wear, .bool bad]
      have hcall := l10NextS r.a n1 r.cap r.wear r.bad r.ps (wr.alloc (.cells #[.slice ra n1 rc, .int .i64 wear, .bool bad] 42)) hn1 htp (hrp.keep hbA)
      obtain ⟨q, hq⟩ : ∃ q, nextP (r.ps.map PgR.D) = q := ⟨_, rfl⟩
      rw [hn1, hra, hrc] at x0
      rw [hra, hrc, hwe, hba, hq] at hcall
      rw [hwe] at x1
      rw [hba] at x2
      rw [hba, hq] at hnx
      rw [hba, hq, hn1] at hbe
      rw [hn1] at hle hpl
      rw [hq] at hle
      have HNX : Hid _ := hnx
      have HBE : Hid _ := hbe
      have HA : Hid _ := hbA
      obtain ⟨Hr, hHr⟩ : ∃ H, wr.heap.size = H := ⟨_, rfl⟩
      have HHR : Hid _ := hHr
      rw [hHr] at y0
      clear hrk hn1 hwe hba hra hrc hq hnx hbe hrp htp hf hall hbA
      go_wp2_with fail
      try rw [hHr]
      refine hcall.mono ?_
      rintro e w1 ⟨rfl, hb1⟩
      have hB' : Hid (Below W0.heap.size W0 w1) := hB.out.trans ((HA.out.trans (hb1.mono HA.out.size)).mono hB.out.size)
      have y1 := y0.keep hb1
      have p0 := y1.cell 0
      have p2 := y1.cell 2
      simp at p0 p2
      clear hcall hb1 y0 y1 x0 x1 x2 t0 HA hHr
      cases bad
      · by_cases h0 : q = 0
        · subst h0
          have hNB : Hid _ := hno.out (by rw [HBE.out]; rfl)
          by_cases hkf : kf < 0
          · have HN : Hid (fstD freeB ((bs.take (k + 1)).map BkR.D) = (k : Int)) := by show _ = _; rw [HNX.out, if_neg (by omega)]; rfl
            clear HNX HBE hno hend
            go_wp2
            go_roundw
            case rel => exact ⟨k + 1, (k : Int), by omega, by go_num, by go_num, HN, hNB, hB', by omega, by omega⟩
            case measure => simp [intOf]; omega
          · have HN : Hid (fstD freeB ((bs.take (k + 1)).map BkR.D) = kf) := by show _ = _; rw [HNX.out, if_pos (by omega)]
            clear HNX HBE hno hend
            go_wp2
            go_roundw
            case rel => exact ⟨k + 1, kf, by omega, by go_num, rfl, HN, hNB, hB', by omega, by omega⟩
            case measure => simp [intOf]; omega
        · have h2 : ((q : Int) == 0) = false := by simpa using h0
          have h3 : ¬ (q : Int) = 0 := by omega
          have h4 : (0 : Int) < (q : Int) := by omega
          by_cases hqn : q < n1
          · have h5 : (q : Int) < (n1 : Int) := by omega
            have he : Hid _ := hend.out (by rw [HBE.out]; simp [hqn]; omega)
            clear HNX HBE hno hend
            go_wp2
            go_ret
            rw [he.out, ← hH]
            exact ⟨rfl, HB.out.trans (hB'.out.mono HB.out.size)⟩
          · have h5 : ¬ (q : Int) < (n1 : Int) := by omega
            have hNB : Hid _ := hno.out (by rw [HBE.out]; simp [hqn])
            have HN : Hid (fstD freeB ((bs.take (k + 1)).map BkR.D) = kf) := by
              show _ = _
              rw [HNX.out]
              by_cases hkf : 0 ≤ kf
              · rw [if_pos hkf]
              · rw [if_neg hkf]; simp [h0]; omega
            clear HNX HBE hno hend
            go_wp2
            go_roundw
            case rel => exact ⟨k + 1, kf, by omega, by go_num, rfl, HN, hNB, hB', by omega, by omega⟩
            case measure => simp [intOf]; omega
      · have hNB : Hid _ := hno.out (by rw [HBE.out]; rfl)
        have HN : Hid (fstD freeB ((bs.take (k + 1)).map BkR.D) = kf) := by
          show _ = _
          rw [HNX.out]
          by_cases hkf : 0 ≤ kf
          · rw [if_pos hkf]
          · rw [if_neg hkf]; simp; omega
        clear HNX HBE hno hend
        go_wp2
        go_roundw
        case rel => exact ⟨k + 1, kf, by omega, by go_num, rfl, HN, hNB, hB', by omega, by omega⟩
        case measure => simp [intOf]; omega
    · have hki : ¬ (k : Int) < (n : Int) := by omega
      have ht := hf.out
      rw [List.take_of_length_le (by rw [hln.out]; omega)] at ht
      have ho := hop2.out (fstD_none fun j q hq => hall.out j q (by have := (List.getElem?_eq_some_iff.1 hq).1; rw [hln.out] at this; omega) hq)
      rw [ht] at ho
      have t1 := z1.cell 1
      have t2 := z1.cell 2
      have t3 := z1.cell 3
      have t4 := z1.cell 4
      simp at t1 t2 t3 t4
      have hcall := CN.out wr hB.out
      generalize freeD (bs.map BkR.D) = nf at hcall ho hfl
      have HO : Hid _ := ho
      clear ho ht hall hf hop hop2 CN
      go_wp2_with fail
      refine hcall.mono ?_
      rintro e w1 ⟨rfl, hb1⟩
      have hB' : Hid (Below W0.heap.size W0 w1) := hB.out.trans (hb1.mono hB.out.size)
      clear hcall hb1
      by_cases hs : spare < (nf : Int)
      · go_wp2
        go_ret
        rw [HO.out, if_pos hs, ← hH]
        exact ⟨rfl, HB.out.trans (hB'.out.mono HB.out.size)⟩
      · go_wp2
        go_ret
        rw [HO.out, if_neg (by omega), ← hH]
        exact ⟨rfl, HB.out.trans (hB'.out.mono HB.out.size)⟩
end

section
open Go.RowKit
/-- A log, an address and a code were answered. -/
def LwA (w : World) (B : Nat) (D : DvD) (seq adr code : Int) (e : Ending) (w' : World) : Prop := ∃ a n c fa m fc qs, e = .returned (.tuple #[.agg #[.slice a n c, .int .i64 D.ops, .slice fa m fc, .bool D.down, .int .i64 seq], .int .i64 adr, .int .i64 code]) ∧ NewDv w' B a n c fa m fc D.ds D.fs qs ∧ qs.length = n ∧ Below w.heap.size w w'
def WrA.D (R : WrA) (fs : List FtD) : DvD := ⟨R.S.ds, R.S.ops, fs, R.S.down⟩
def WrA.sq (R : WrA) (seq : Int) : Int := if R.more then seq + 1 else seq
theorem NewDv.setN {W : World} {B n c m fc j i : Nat} {a fa : Option Addr} {ds : List BkD} {fs : List FtD} {qs : List BkR} {u : Value} (h : NewDv W B a n c fa m fc ds fs qs) (hj : j ∉ fpDv a n c fa m fc qs) : NewDv (W.setCell ⟨j, i, none⟩ u) B a n c fa m fc ds fs qs :=
  h.svs (F := [j]) (Sv.gr (gr_setC W j i u) (fun g hg => by simp at hg; simp [hg])) (fun g hg hf => by simp at hf; subst hf; exact hj hg)
theorem NewDv.cr {w : World} {B n c m fc : Nat} {a fa : Option Addr} {ds : List BkD} {fs : List FtD} {qs : List BkR} (h : NewDv w B a n c fa m fc ds fs qs) (hl : qs.length = n) (ht : totB ds ≤ 1048576) : CR w a n qs := ⟨hl, by rw [h.bs.D]; exact ht, h.bs.rd⟩
theorem devB_tot {ds : List BkD} {ops : Int} {fs : List FtD} (h : devB ds ops fs = true) : totB ds ≤ 1048576 := by
  have := (ok_small (chipOkB_iff ds |>.2 (devB_parts.1 h).1)).2
  omega
theorem nextD_le {ds : List BkD} {k : Nat} {b : BkD} (hk : ds[k]? = some b) : nextD ds (k : Int) = (nextP b.ps : Nat) := by unfold nextD; rw [if_pos (by omega)]; simp [hk]
/-- One try more. -/
theorem wrA_neg {fs : List FtD} {Z : List Int} {spare : Int} {f : Nat} {S : LgS} (h : openD S.ds spare < 0) : wrA fs Z spare f S = ⟨S, false, -1, 9⟩ := by
  cases f with
  | zero => rfl
  | succ f => unfold wrA; rw [if_pos h]
theorem wrA_good {fs : List FtD} {Z : List Int} {spare : Int} {f k : Nat} {S : LgS} (h : openD S.ds spare = (k : Int)) (h0 : stO fs k Z S = 0) : wrA fs Z spare (f + 1) S = ⟨stN fs k Z S, true, (k : Int) * 8 + nextD S.ds (k : Int), 0⟩ := by
  unfold wrA
  rw [h, if_neg (by omega), Int.toNat_natCast, if_pos h0]
theorem wrA_bad {fs : List FtD} {Z : List Int} {spare : Int} {f k : Nat} {S : LgS} (h : openD S.ds spare = (k : Int)) (h0 : stO fs k Z S = 2) : wrA fs Z spare (f + 1) S = wrA fs Z spare f (stN fs k Z S) := by
  conv => lhs; unfold wrA
  rw [h, if_neg (by omega), Int.toNat_natCast, if_neg (by omega), if_pos h0]
theorem wrA_off {fs : List FtD} {Z : List Int} {spare : Int} {f k : Nat} {S : LgS} (h : openD S.ds spare = (k : Int)) (h0 : stO fs k Z S = 10) : wrA fs Z spare (f + 1) S = ⟨stN fs k Z S, (stN fs k Z S).down, -1, 10⟩ := by
  unfold wrA
  rw [h, if_neg (by omega), Int.toNat_natCast, if_neg (by omega), if_neg (by omega), h0]
theorem devB_ch' {ds : List BkD} {ops : Int} {fs : List FtD} (h : devB ds ops fs = true) : ChOk ds := (devB_parts.1 h).1
set_option maxHeartbeats 1600000 in
theorem addrAtI (x y : Int) (w : World) (hx : 0 ≤ x ∧ x ≤ 1000000) (hy : 0 ≤ y ∧ y ≤ 1000000) :
    Calls Tryz.prog 82 #[.int .i64 x, .int .i64 y] w fun e w' => e = .returned (.int .i64 (x * 8 + y)) ∧ w' = w := by
  obtain ⟨h1, h2⟩ := hx
  obtain ⟨h3, h4⟩ := hy
  go_enter Tryz.func82, Tryz.ntmps82
  go_wp2
  go_ret
  exact ⟨rfl, rfl⟩
set_option maxRecDepth 100000 in
set_option maxHeartbeats 16000000 in
theorem loopI (fs : List FtD) (Z : List Int) (spare : Int) (B : Nat) (S : LgS) (a : Option Addr) (n c : Nat) (fa : Option Addr) (m fc : Nat) (qs : List BkR) (seq : Int) (gb nb cb : Nat) (w : World) (hN : NewDv w B a n c fa m fc S.ds fs qs) (hl : qs.length = n) (hI : LgI fs S) (hm : m ≤ 1048576) (hsq : 0 ≤ seq ∧ seq < 1000000) (hz : Z.length = nb) (hn4 : nb ≤ 400) (hcb : nb ≤ cb) (hrz : Rd w (some ⟨gb, 0, none⟩) Z) (hE : EtCell w) (hB : B ≤ w.heap.size) :
    Calls Tryz.prog 76 #[.agg #[.slice a n c, .int .i64 S.ops, .slice fa m fc, .bool false, .int .i64 seq], .slice (some ⟨gb, 0, none⟩) nb cb, .int .i64 spare] w (LwA w B ((wrA fs Z spare (n + 1) S).D fs) ((wrA fs Z spare (n + 1) S).sq seq) (wrA fs Z spare (n + 1) S).adr (wrA fs Z spare (n + 1) S).code) := by
  have B0 : Below w.heap.size w ((w.alloc (.cells #[.slice a n c, .int .i64 S.ops, .slice fa m fc, .bool false, .int .i64 seq] 55)).alloc (.cells #[.slice none 0 0, .int .i64 0, .slice none 0 0, .bool false, .int .i64 0] 55)) := ((Below.refl _ w).alloc (Nat.le_refl _) _).alloc (by simp) _
  have z0 := (Blk.new w 55 #[.slice a n c, .int .i64 S.ops, .slice fa m fc, .bool false, .int .i64 seq]).alloc (.cells #[.slice none 0 0, .int .i64 0, .slice none 0 0, .bool false, .int .i64 0] 55)
  have z1 := Blk.new (w.alloc (.cells #[.slice a n c, .int .i64 S.ops, .slice fa m fc, .bool false, .int .i64 seq] 55)) 55 #[.slice none 0 0, .int .i64 0, .slice none 0 0, .bool false, .int .i64 0]
  simp only [World.size_alloc] at z1
  have hnl : S.ds.length = n := by rw [← hN.bs.len]; exact hl
  have hfm : fs.length = m := OwnE.len hN.fs
  obtain ⟨W0, hW0⟩ : ∃ W, (w.alloc (.cells #[.slice a n c, .int .i64 S.ops, .slice fa m fc, .bool false, .int .i64 seq] 55)).alloc (.cells #[.slice none 0 0, .int .i64 0, .slice none 0 0, .bool false, .int .i64 0] 55) = W := ⟨_, rfl⟩
  rw [hW0] at B0 z0 z1
  obtain ⟨H, hH⟩ : ∃ H, w.heap.size = H := ⟨_, rfl⟩
  have HH : Hid (w.heap.size = H) := hH
  have hfp : H ∉ fpDv a n c fa m fc qs ∧ H + 1 ∉ fpDv a n c fa m fc qs := ⟨fun h => by have := hN.lt H h; omega, fun h => by have := hN.lt (H + 1) h; omega⟩
  have hN0 := hN.keep B0
  rw [hH] at z0 z1
  generalize hGP : LwA w B ((wrA fs Z spare (n + 1) S).D fs) ((wrA fs Z spare (n + 1) S).sq seq) (wrA fs Z spare (n + 1) S).adr (wrA fs Z spare (n + 1) S).code = P
  obtain ⟨R, hR⟩ : ∃ R, wrA fs Z spare (n + 1) S = R := ⟨_, rfl⟩
  rw [hR] at hGP
  have HGP : Hid _ := hGP
  have HEZ : Hid (∀ W : World, Below w.heap.size w W → EtCell W ∧ Rd W (some ⟨gb, 0, none⟩) Z) := fun W hW => ⟨hE.keep hW, hrz.keep hW⟩
  have hgd := gdN_le S.ds
  have HS : Hid (∀ (W : World) (S' : LgS) (a' : Option Addr) (c' : Nat) (fa' : Option Addr) (fc' : Nat) (qs' : List BkR), NewDv W B a' n c' fa' m fc' S'.ds fs qs' → qs'.length = n → LgI fs S' → CR W a' n qs' ∧ FR W fa' m fs) := fun W S' a' c' fa' fc' qs' h1 h2 h3 => ⟨h1.cr h2 (devB_tot h3.1), OwnFa.fr h1.fs hm⟩
  have hop := openI a n c qs S.ops fa m fc false seq spare W0 (HS.out W0 S a c fa fc qs hN0 hl hI).1
  rw [hN.bs.D] at hop
  have hdn : S.down = false := hI.2
  have HZ : Hid (Z.length = nb) := hz
  have HFM : Hid (fs.length = m) := hfm
  have HB0 : Hid (Below w.heap.size w W0) := B0
  have HBB : Hid (B ≤ w.heap.size) := hB
  have hst : Hid (Blk W0 H 55 #[.slice a n c, .int .i64 S.ops, .slice fa m fc, .bool false, .int .i64 seq] ∧ Blk W0 (H + 1) 55 #[.slice none 0 0, .int .i64 0, .slice none 0 0, .bool false, .int .i64 0] ∧ NewDv W0 B a n c fa m fc S.ds fs qs ∧ qs.length = n ∧ LgI fs S ∧ S.ds.length = n ∧ wrA fs Z spare (n + 1) S = R ∧ gdN S.ds < n + 1 ∧ H ∉ fpDv a n c fa m fc qs ∧ H + 1 ∉ fpDv a n c fa m fc qs) := ⟨z0, z1, hN0, hl, hI, hnl, hR, by omega, hfp.1, hfp.2⟩
  obtain ⟨q0, q1, q2, q3, q4⟩ := z0.log
  obtain ⟨hs0, hs1⟩ := hsq
  clear hN hl hI hrz hE B0 z0 z1 hN0 hnl hfm hfp hGP hR hB hz hgd hdn
  go_enter Tryz.func76, Tryz.ntmps76
  go_wp2_with fail
  go_step3
  go_wp2_with fail
  go_step3
  go_wp2_with fail
  try rw [hW0]
  try rw [hH]
  refine hop.mono ?_
  rintro e w1 ⟨rfl, b1⟩
  have HB1 : Hid (Below w.heap.size w w1) := HB0.out.trans (b1.mono HB0.out.size)
  obtain ⟨z0, z1, hN0, hl, hI, hnl, hR, hgd, hf0, hf1⟩ := hst.out
  have hst1 : Hid (Blk w1 H 55 #[.slice a n c, .int .i64 S.ops, .slice fa m fc, .bool false, .int .i64 seq] ∧ Blk w1 (H + 1) 55 #[.slice none 0 0, .int .i64 0, .slice none 0 0, .bool false, .int .i64 0] ∧ NewDv w1 B a n c fa m fc S.ds fs qs) := ⟨z0.keep b1, z1.keep b1, hN0.keep b1⟩
  clear hop z0 z1 hN0 hst b1 HB0 hW0 q0 q1 q2 q3 q4
  go_wp2
  go_loopw [9] (fun i wr => ∃ (S' : LgS) (f : Nat) (a' : Option Addr) (c' : Nat) (fa' : Option Addr) (fc' : Nat) (qs' : List BkR), i = .int .i64 (openD S'.ds spare) ∧ Hid (Blk wr H 55 #[.slice a' n c', .int .i64 S'.ops, .slice fa' m fc', .bool false, .int .i64 seq] ∧ Blk wr (H + 1) 55 #[.slice none 0 0, .int .i64 0, .slice none 0 0, .bool false, .int .i64 0] ∧ NewDv wr B a' n c' fa' m fc' S'.ds fs qs' ∧ qs'.length = n ∧ LgI fs S' ∧ S'.ds.length = n ∧ wrA fs Z spare f S' = R ∧ gdN S'.ds < f ∧ H ∉ fpDv a' n c' fa' m fc' qs' ∧ H + 1 ∉ fpDv a' n c' fa' m fc' qs' ∧ Below w.heap.size w wr)) (fun _ wr => 100000 - (intOf ((wr.cell? ⟨H, 1, none⟩).getD undef)).toNat)
  case atStart => exact ⟨S, n + 1, a, c, fa, fc, qs, rfl, hst1.out.1, hst1.out.2.1, hst1.out.2.2, hl, hI, hnl, hR, hgd, hf0, hf1, HB1.out⟩
  case round =>
    obtain ⟨S', f, a', c', fa', fc', qs', rfl, hst⟩ := hrel
    clear hst1 HB1 hl hI hnl hR hgd hf0 hf1
    obtain ⟨z0, z1, hN0, hl, hI, hnl, hR, hgd, hf0, hf1, hB1⟩ := hst.out
    obtain ⟨q0, q1, q2, q3, q4⟩ := z0.log
    have hCF := HS.out wr S' a' c' fa' fc' qs' hN0 hl hI
    by_cases hneg : openD S'.ds spare < 0
    · have hop0 : ¬ (0 : Int) ≤ openD S'.ds spare := by omega
      have HR : Hid (WrA.mk S' false (-1) 9 = R) := by show _ = _; rw [← hR, wrA_neg hneg]
      have HND : Hid (NewDv wr B a' n c' fa' m fc' S'.ds fs qs' ∧ qs'.length = n ∧ Below w.heap.size w wr ∧ H + 1 ∉ fpDv a' n c' fa' m fc' qs') := ⟨hN0, hl, hB1, hf1⟩
      have hd : S'.down = false := hI.2
      generalize openD S'.ds spare = ok at hop0
      clear hst hN0 hl hI hnl hR hgd hf0 hf1 hB1 hCF hneg z0
      obtain ⟨r0, r1, r2, r3, r4⟩ := z1.log
      have g0 := z1.frozen 0
      have g1 := z1.frozen 1
      have g2 := z1.frozen 2
      have g3 := z1.frozen 3
      have g4 := z1.frozen 4
      have zf := ((((z1.set 0 (.slice a' n c')).set 1 (.int .i64 S'.ops)).set 2 (.slice fa' m fc')).set 3 (.bool false)).set 4 (.int .i64 seq)
      obtain ⟨d0, d1, d2, d3, d4⟩ := zf.log
      clear z1 zf
      go_wp2
      refine bodyPost_ret (v := .tuple #[.agg #[.slice a' n c', .int .i64 S'.ops, .slice fa' m fc', .bool false, .int .i64 seq], .int .i64 (-1), .int .i64 9]) (by simp [results, Tryz.f76, go_sem, d0, d1, d2, d3, d4]) rfl ?_
      rw [← HGP.out, ← HR.out]
      obtain ⟨hnd, hql, hb, hf1⟩ := HND.out
      have s : ∀ (W : World) (i : Nat) (v : Value), Below w.heap.size w W → Below w.heap.size w (W.setCell ⟨H + 1, i, none⟩ v) := fun W i v hb => hb.setCell (p := ⟨H + 1, i, none⟩) (by have := HH.out; simp only; omega) v
      exact ⟨a', n, c', fa', m, fc', _, (by unfold WrA.D WrA.sq; dsimp only; rw [hd]; rfl), ((((hnd.setN hf1).setN hf1).setN hf1).setN hf1).setN hf1, hql, s _ _ _ (s _ _ _ (s _ _ _ (s _ _ _ (s _ _ _ hb))))⟩

    · obtain ⟨k, b, hk, hkb, hbb, hb8⟩ := openD_hit (devB_ch' hI.1) (by omega : 0 ≤ openD S'.ds spare)
      have hk24 := (List.getElem?_eq_some_iff.1 hkb).1
      have hn24 := (devB_parts.1 hI.1).1.2.1
      rw [hnl] at hk24 hn24
      have hops := (devB_parts.1 hI.1).2.1
      have hnx := nextI a' n c' qs' (k : Int) wr hCF.1
      rw [hN0.bs.D, nextD_le hkb] at hnx
      obtain ⟨p, hp⟩ : ∃ p, nextP b.ps = p := ⟨_, rfl⟩
      rw [hp] at hnx hb8
      have hst3 := st_ok (Z := Z) hI hkb hbb (by omega) (by rw [HZ.out]; omega)
      obtain ⟨f', rfl⟩ : ∃ f', f = f' + 1 := ⟨f - 1, by omega⟩
      have hgood := fun h => wrA_good (fs := fs) (Z := Z) (f := f') hk h
      have hbad := fun h => wrA_bad (fs := fs) (Z := Z) (f := f') hk h
      have hoff := fun h => wrA_off (fs := fs) (Z := Z) (f := f') hk h
      rw [hR] at hgood hbad hoff
      rw [nextD_le hkb, hp] at hgood
      have HDP : Hid (∀ W : World, Below wr.heap.size wr W → Calls Tryz.prog 12 #[.agg #[.slice a' n c', .int .i64 S'.ops, .slice fa' m fc', .bool false], .int .i64 (k : Int), .slice (some ⟨gb, 0, none⟩) nb cb] W (DvCA W ⟨(stN fs k Z S').ds, (stN fs k Z S').ops, fs, (stN fs k Z S').down⟩ (stO fs k Z S'))) := fun W hW => by
        have h1 := devPrI a' n c' qs' S'.ops fa' m fc' fs S'.down (k : Int) gb nb cb Z W (hCF.1.keep hW) (hCF.2.keep hW) HZ.out ⟨hcb, by omega⟩ ((HEZ.out W (hB1.trans (hW.mono hB1.size))).2) ((HEZ.out W (hB1.trans (hW.mono hB1.size))).1)
        rw [hN0.bs.D, hI.2] at h1
        unfold stN stO stC
        rw [HZ.out, hI.2]
        exact h1
      have HD0 : Hid (S'.down = false) := hI.2
      have hlen2 := hst3.2.1
      rw [hnl] at hlen2
      have HK : Hid (openD S'.ds spare = (k : Int)) := hk
      rw [hk]
      have hk0 : (0 : Int) ≤ (k : Int) := by omega
      have hak := fun (W : World) => addrAtI (k : Int) (p : Int) W (by omega) (by omega)
      have hst3b := hst3.1
      have hst3c := hst3.2.2
      generalize stO fs k Z S' = cd at hst3c hgood hbad hoff HDP
      generalize stN fs k Z S' = S2 at hst3b hst3c hgood hbad hoff HDP hlen2
      have HST : Hid (Blk wr H 55 #[.slice a' n c', .int .i64 S'.ops, .slice fa' m fc', .bool false, .int .i64 seq] ∧ Blk wr (H + 1) 55 #[.slice none 0 0, .int .i64 0, .slice none 0 0, .bool false, .int .i64 0] ∧ Below w.heap.size w wr) := ⟨z0, z1, hB1⟩
      have HOPS : Hid (0 ≤ S'.ops ∧ gdN S'.ds < f' + 1 ∧ H + 1 + 1 ≤ wr.heap.size) := ⟨hops.1, hgd, z1.lt⟩
      have HQ1 : Hid (wr.cell? ⟨H, 1, none⟩ = some (.int .i64 S'.ops)) := q1
      obtain ⟨S0ops, hS0⟩ : ∃ x, S'.ops = x := ⟨_, rfl⟩
      obtain ⟨gd0, hgd0⟩ : ∃ x, gdN S'.ds = x := ⟨_, rfl⟩
      rw [hS0] at q1 HDP HST HOPS hst3c HQ1
      rw [hgd0] at HOPS hst3c
      clear hst hN0 hl hI hnl hR hgd hf0 hf1 hB1 hCF hneg z0 z1 hkb hbb hst3 hops hp hb8 hS0 hgd0 HD0 HK
      go_wp2_with fail
      refine hnx.mono ?_
      rintro e w2 ⟨rfl, b2⟩
      go_wp2_with fail
      refine (hak w2).mono ?_
      rintro e w2' ⟨rfl, hw⟩
      obtain rfl := hw.symm
      obtain ⟨z0, z1, hB1⟩ := HST.out
      have z02 := z0.keep b2
      obtain ⟨q0, q1, q2, q3, q4⟩ := z02.log
      clear hak hnx z0 z1 hB1
      go_wp2_with fail
      refine (HDP.out w2 b2).mono ?_
      rintro e w3 ⟨a2, n2, c2, fa2, m2, fc2, qs2, rfl, hN2, hl2, b3⟩
      have hn2 : n2 = n := by rw [← hl2, hN2.bs.len, hlen2]
      have hm2 : m2 = m := by rw [← OwnE.len hN2.fs, HFM.out]
      subst hn2 hm2
      dsimp only at hN2 ⊢
      obtain ⟨ds2, ops2, dn2⟩ := S2
      dsimp only at hN2 hst3b hst3c hgood hbad hoff hlen2 ⊢
      have b23 := b2.trans (b3.mono b2.size)
      have y4 := Blk.new w3 29 #[.slice a2 n2 c2, .int .i64 ops2, .slice fa2 m2 fc2, .bool dn2]
      have b4 : Below w3.heap.size w3 (w3.alloc (.cells #[.slice a2 n2 c2, .int .i64 ops2, .slice fa2 m2 fc2, .bool dn2] 29)) := (Below.refl _ w3).alloc (Nat.le_refl _) _
      have b234 := b23.trans (b4.mono b23.size)
      obtain ⟨z0, z1, hB1⟩ := HST.out
      have z04 := z0.keep b234
      have z14 := z1.keep b234
      have hN4 := hN2.keep b4
      have hB4 := hB1.trans (b234.mono hB1.size)
      have hfr := hN2.from
      have hsz2 := b2.size
      have hHs := HOPS.out.2.2
      obtain ⟨W4, hW4⟩ : ∃ W, w3.alloc (.cells #[.slice a2 n2 c2, .int .i64 ops2, .slice fa2 m2 fc2, .bool dn2] 29) = W := ⟨_, rfl⟩
      rw [hW4] at y4 z04 z14 hN4 hB4
      obtain ⟨T, hT⟩ : ∃ T, w3.heap.size = T := ⟨_, rfl⟩
      rw [hT] at y4
      have hTH : H + 1 < T := by have := b23.size; omega
      have hf0 : H ∉ fpDv a2 n2 c2 fa2 m2 fc2 qs2 := fun h => by have := hfr H h; omega
      have hf1 : H + 1 ∉ fpDv a2 n2 c2 fa2 m2 fc2 qs2 := fun h => by have := hfr (H + 1) h; omega
      obtain ⟨y0, y1, y2, y3⟩ : _ ∧ _ ∧ _ ∧ _ := ⟨y4.cell 0, y4.cell 1, y4.cell 2, y4.cell 3⟩
      obtain ⟨q0, q1, q2, q3, q4⟩ := z04.log
      have fz0 := z04.frozen 0
      have fz1 := z04.frozen 1
      have fz2 := z04.frozen 2
      have fz3 := z04.frozen 3
      have z05 := (((z04.set 0 (.slice a2 n2 c2)).set 1 (.int .i64 ops2)).set 2 (.slice fa2 m2 fc2)).set 3 (.bool dn2)
      have hTne : H ≠ T := by omega
      have z15 := (((z14.other (B' := H) (by omega) 0 (.slice a2 n2 c2)).other (B' := H) (by omega) 1 (.int .i64 ops2)).other (B' := H) (by omega) 2 (.slice fa2 m2 fc2)).other (B' := H) (by omega) 3 (.bool dn2)
      have y5 := (((y4.other (B' := H) (by omega) 0 (.slice a2 n2 c2)).other (B' := H) (by omega) 1 (.int .i64 ops2)).other (B' := H) (by omega) 2 (.slice fa2 m2 fc2)).other (B' := H) (by omega) 3 (.bool dn2)
      have hN5 : NewDv _ B a2 n2 c2 fa2 m2 fc2 ds2 fs qs2 := ((((hN4.setN (i := 0) (u := .slice a2 n2 c2) hf0).setN (i := 1) (u := .int .i64 ops2) hf0).setN (i := 2) (u := .slice fa2 m2 fc2) hf0).setN (i := 3) (u := .bool dn2) hf0).wider (by have := HBB.out; have := HH.out; omega)
      have sH : ∀ (W : World) (i : Nat) (v : Value), Below w.heap.size w W → Below w.heap.size w (W.setCell ⟨H, i, none⟩ v) := fun W i v hb => hb.setCell (p := ⟨H, i, none⟩) (by have := HH.out; simp only; omega) v
      have hB5 := sH _ 3 (.bool dn2) (sH _ 2 (.slice fa2 m2 fc2) (sH _ 1 (.int .i64 ops2) (sH _ 0 (.slice a2 n2 c2) hB4)))
      have hd5 := y5.cell 3
      obtain ⟨v0, v1, v2, v3, v4⟩ := z05.log
      have fz4 := z05.frozen 4
      simp at z05 v0 v1 v2 v3 v4 y0 y1 y2 y3 hd5
      have HBL : Hid (Below w.heap.size w W4) := hB4
      clear hfr HDP HST b2 b3 b23 b4 b234 z0 z1 hB1 z02 hN2 y4 z04 z14 hN4 hB4 y5 hl2
      have HALL : Hid (∀ W5 : World, ((((W4.setCell ⟨H, 0, none⟩ (.slice a2 n2 c2)).setCell ⟨H, 1, none⟩ (.int .i64 ops2)).setCell ⟨H, 2, none⟩ (.slice fa2 m2 fc2)).setCell ⟨H, 3, none⟩ (.bool dn2)) = W5 → Blk W5 H 55 #[.slice a2 n2 c2, .int .i64 ops2, .slice fa2 m2 fc2, .bool dn2, .int .i64 seq] ∧ Blk W5 (H + 1) 55 #[.slice none 0 0, .int .i64 0, .slice none 0 0, .bool false, .int .i64 0] ∧ NewDv W5 B a2 n2 c2 fa2 m2 fc2 ds2 fs qs2 ∧ Below w.heap.size w W5 ∧ W5.cell? ⟨T, 3, none⟩ = some (.bool dn2)) := fun W5 hW5 => by subst hW5; exact ⟨z05, z15, hN5, hB5, hd5⟩
      clear z05 z15 hN5 hB5 hd5 v0 v1 v2 v3 v4 fz4
      go_upto_region 7 with fail
      obtain ⟨W5, hW5⟩ : ∃ W, ((((W4.setCell ⟨H, 0, none⟩ (.slice a2 n2 c2)).setCell ⟨H, 1, none⟩ (.int .i64 ops2)).setCell ⟨H, 2, none⟩ (.slice fa2 m2 fc2)).setCell ⟨H, 3, none⟩ (.bool dn2)) = W := ⟨_, rfl⟩
      obtain ⟨z05, z15, hN5, hB5, hd5⟩ := HALL.out W5 hW5
      rw [hW5]
      have fz4 := z05.frozen 4
      obtain ⟨v0, v1, v2, v3, v4⟩ := z05.log
      clear hW5 hW4 HALL y0 y1 y2 y3 q0 q1 q2 q3 q4 fz0 fz1 fz2 fz3
      rcases hst3c with ⟨hc0, hd0⟩ | ⟨hc2, hd2, hg2, ho1, ho2⟩ | hc10
      · subst hc0
        subst hd0
        have HR : Hid (WrA.mk ⟨ds2, ops2, false⟩ true ((k : Int) * 8 + (p : Int)) 0 = R) := (hgood rfl).symm
        have z06 := z05.set 4 (.int .i64 (seq + 1))
        have z16 := z15.other (B' := H) (by omega) 4 (.int .i64 (seq + 1))
        have HND : Hid (NewDv (W5.setCell ⟨H, 4, none⟩ (.int .i64 (seq + 1))) B a2 n2 c2 fa2 m2 fc2 ds2 fs qs2 ∧ qs2.length = n2 ∧ Below w.heap.size w (W5.setCell ⟨H, 4, none⟩ (.int .i64 (seq + 1))) ∧ H + 1 ∉ fpDv a2 n2 c2 fa2 m2 fc2 qs2) := ⟨hN5.setN (i := 4) (u := .int .i64 (seq + 1)) hf0, by rw [hN5.bs.len]; exact hlen2, sH _ 4 (.int .i64 (seq + 1)) hB5, hf1⟩
        simp at z06
        obtain ⟨x0, x1, x2, x3, x4⟩ := z06.log
        clear hgood hbad hoff hN5 hB5 z05 z15 z06 hlen2 sH
        go_upto_region 11 with fail
        obtain ⟨W6, hW6⟩ : ∃ W, W5.setCell ⟨H, 4, none⟩ (.int .i64 (seq + 1)) = W := ⟨_, rfl⟩
        rw [hW6] at z16 HND x0 x1 x2 x3 x4
        rw [hW6]
        clear hW6 v0 v1 v2 v3 v4 fz4 hd5
        obtain ⟨r0, r1, r2, r3, r4⟩ := z16.log
        have g0 := z16.frozen 0
        have g1 := z16.frozen 1
        have g2 := z16.frozen 2
        have g3 := z16.frozen 3
        have g4 := z16.frozen 4
        have zf := ((((z16.set 0 (.slice a2 n2 c2)).set 1 (.int .i64 ops2)).set 2 (.slice fa2 m2 fc2)).set 3 (.bool false)).set 4 (.int .i64 (seq + 1))
        obtain ⟨d0, d1, d2, d3, d4⟩ := zf.log
        clear z16 zf
        go_wp2
        refine bodyPost_ret (v := .tuple #[.agg #[.slice a2 n2 c2, .int .i64 ops2, .slice fa2 m2 fc2, .bool false, .int .i64 (seq + 1)], .int .i64 ((k : Int) * 8 + (p : Int)), .int .i64 0]) (by simp [results, Tryz.f76, go_sem, d0, d1, d2, d3, d4]) rfl ?_
        rw [← HGP.out, ← HR.out]
        obtain ⟨hnd, hql, hb, hf1⟩ := HND.out
        have s : ∀ (W : World) (i : Nat) (v : Value), Below w.heap.size w W → Below w.heap.size w (W.setCell ⟨H + 1, i, none⟩ v) := fun W i v hb => hb.setCell (p := ⟨H + 1, i, none⟩) (by have := HH.out; simp only; omega) v
        exact ⟨a2, n2, c2, fa2, m2, fc2, _, (by unfold WrA.D WrA.sq; rfl), ((((hnd.setN hf1).setN hf1).setN hf1).setN hf1).setN hf1, hql, s _ _ _ (s _ _ _ (s _ _ _ (s _ _ _ (s _ _ _ hb))))⟩
      · subst hc2
        subst hd2
        have hR2 : Hid (R = wrA fs Z spare f' ⟨ds2, ops2, false⟩) := hbad rfl
        have hI2 : LgI fs ⟨ds2, ops2, false⟩ := ⟨hst3b, rfl⟩
        have hl2' : qs2.length = n2 := by rw [hN5.bs.len]; exact hlen2
        have hop2 := openI a2 n2 c2 qs2 ops2 fa2 m2 fc2 false seq spare W5 (HS.out _ ⟨ds2, ops2, false⟩ a2 c2 fa2 fc2 qs2 hN5 hl2' hI2).1
        rw [hN5.bs.D] at hop2
        have HZZ : Hid (Blk W5 H 55 #[.slice a2 n2 c2, .int .i64 ops2, .slice fa2 m2 fc2, .bool false, .int .i64 seq] ∧ Blk W5 (H + 1) 55 #[.slice none 0 0, .int .i64 0, .slice none 0 0, .bool false, .int .i64 0] ∧ NewDv W5 B a2 n2 c2 fa2 m2 fc2 ds2 fs qs2 ∧ Below w.heap.size w W5 ∧ LgI fs ⟨ds2, ops2, false⟩ ∧ qs2.length = n2 ∧ ds2.length = n2 ∧ H ∉ fpDv a2 n2 c2 fa2 m2 fc2 qs2 ∧ H + 1 ∉ fpDv a2 n2 c2 fa2 m2 fc2 qs2) := ⟨z05, z15, hN5, hB5, hI2, hl2', hlen2, hf0, hf1⟩
        have HO : Hid (ops2 = S0ops + 1 ∧ S0ops < 100000 ∧ gdN ds2 < f' ∧ 0 ≤ S0ops) := ⟨ho2, ho1, by have := HOPS.out.2.1; omega, HOPS.out.1⟩
        clear hgood hbad hoff hN5 hB5 z05 z15 hlen2 sH hI2 hl2' hst3b hg2 ho1 ho2 hf0 hf1 HOPS
        go_wp2_with fail
        refine hop2.mono ?_
        rintro e w6 ⟨rfl, b6⟩
        clear hop2
        go_wp2
        go_roundw
        case rel =>
          obtain ⟨z05, z15, hN5, hB5, hI2, hl2', hlen2, hf0, hf1⟩ := HZZ.out
          exact ⟨⟨ds2, ops2, false⟩, f', a2, c2, fa2, fc2, qs2, rfl, z05.keep b6, z15.keep b6, hN5.keep b6, hl2', hI2, hlen2, hR2.out.symm, HO.out.2.2.1, hf0, hf1, hB5.trans (b6.mono hB5.size)⟩
        case measure =>
          have h1 := HQ1.out
          have h2 := (HZZ.out.1.keep b6).cell 1
          simp at h2
          obtain ⟨o1, o2, _, o4⟩ := HO.out
          rw [h1, h2]
          simp [intOf]
          omega
      · subst hc10
        have HR : Hid (WrA.mk ⟨ds2, ops2, dn2⟩ dn2 (-1) 10 = R) := (hoff rfl).symm
        clear hgood hbad hoff
        cases dn2
        · have HND : Hid (NewDv W5 B a2 n2 c2 fa2 m2 fc2 ds2 fs qs2 ∧ qs2.length = n2 ∧ Below w.heap.size w W5 ∧ H + 1 ∉ fpDv a2 n2 c2 fa2 m2 fc2 qs2) := ⟨hN5, by rw [hN5.bs.len]; exact hlen2, hB5, hf1⟩
          clear hN5 hB5 z05 hlen2 sH
          obtain ⟨r0, r1, r2, r3, r4⟩ := z15.log
          have g0 := z15.frozen 0
          have g1 := z15.frozen 1
          have g2 := z15.frozen 2
          have g3 := z15.frozen 3
          have g4 := z15.frozen 4
          have zf := ((((z15.set 0 (.slice a2 n2 c2)).set 1 (.int .i64 ops2)).set 2 (.slice fa2 m2 fc2)).set 3 (.bool false)).set 4 (.int .i64 seq)
          obtain ⟨d0, d1, d2, d3, d4⟩ := zf.log
          clear z15 zf
          go_wp2
          refine bodyPost_ret (v := .tuple #[.agg #[.slice a2 n2 c2, .int .i64 ops2, .slice fa2 m2 fc2, .bool false, .int .i64 seq], .int .i64 (-1), .int .i64 10]) (by simp [results, Tryz.f76, go_sem, d0, d1, d2, d3, d4]) rfl ?_
          rw [← HGP.out, ← HR.out]
          obtain ⟨hnd, hql, hb, hf1⟩ := HND.out
          have s : ∀ (W : World) (i : Nat) (v : Value), Below w.heap.size w W → Below w.heap.size w (W.setCell ⟨H + 1, i, none⟩ v) := fun W i v hb => hb.setCell (p := ⟨H + 1, i, none⟩) (by have := HH.out; simp only; omega) v
          exact ⟨a2, n2, c2, fa2, m2, fc2, _, (by unfold WrA.D WrA.sq; rfl), ((((hnd.setN hf1).setN hf1).setN hf1).setN hf1).setN hf1, hql, s _ _ _ (s _ _ _ (s _ _ _ (s _ _ _ (s _ _ _ hb))))⟩
        · have z06 := z05.set 4 (.int .i64 (seq + 1))
          have z16 := z15.other (B' := H) (by omega) 4 (.int .i64 (seq + 1))
          have HND : Hid (NewDv (W5.setCell ⟨H, 4, none⟩ (.int .i64 (seq + 1))) B a2 n2 c2 fa2 m2 fc2 ds2 fs qs2 ∧ qs2.length = n2 ∧ Below w.heap.size w (W5.setCell ⟨H, 4, none⟩ (.int .i64 (seq + 1))) ∧ H + 1 ∉ fpDv a2 n2 c2 fa2 m2 fc2 qs2) := ⟨hN5.setN (i := 4) (u := .int .i64 (seq + 1)) hf0, by rw [hN5.bs.len]; exact hlen2, sH _ 4 (.int .i64 (seq + 1)) hB5, hf1⟩
          simp at z06
          obtain ⟨x0, x1, x2, x3, x4⟩ := z06.log
          clear hN5 hB5 z05 z15 z06 hlen2 sH
          go_upto_region 14 with fail
          obtain ⟨W6, hW6⟩ : ∃ W, W5.setCell ⟨H, 4, none⟩ (.int .i64 (seq + 1)) = W := ⟨_, rfl⟩
          rw [hW6] at z16 HND x0 x1 x2 x3 x4
          rw [hW6]
          clear hW6 v0 v1 v2 v3 v4 fz4 hd5
          obtain ⟨r0, r1, r2, r3, r4⟩ := z16.log
          have g0 := z16.frozen 0
          have g1 := z16.frozen 1
          have g2 := z16.frozen 2
          have g3 := z16.frozen 3
          have g4 := z16.frozen 4
          have zf := ((((z16.set 0 (.slice a2 n2 c2)).set 1 (.int .i64 ops2)).set 2 (.slice fa2 m2 fc2)).set 3 (.bool true)).set 4 (.int .i64 (seq + 1))
          obtain ⟨d0, d1, d2, d3, d4⟩ := zf.log
          clear z16 zf
          go_wp2
          refine bodyPost_ret (v := .tuple #[.agg #[.slice a2 n2 c2, .int .i64 ops2, .slice fa2 m2 fc2, .bool true, .int .i64 (seq + 1)], .int .i64 (-1), .int .i64 10]) (by simp [results, Tryz.f76, go_sem, d0, d1, d2, d3, d4]) rfl ?_
          rw [← HGP.out, ← HR.out]
          obtain ⟨hnd, hql, hb, hf1⟩ := HND.out
          have s : ∀ (W : World) (i : Nat) (v : Value), Below w.heap.size w W → Below w.heap.size w (W.setCell ⟨H + 1, i, none⟩ v) := fun W i v hb => hb.setCell (p := ⟨H + 1, i, none⟩) (by have := HH.out; simp only; omega) v
          exact ⟨a2, n2, c2, fa2, m2, fc2, _, (by unfold WrA.D WrA.sq; rfl), ((((hnd.setN hf1).setN hf1).setN hf1).setN hf1).setN hf1, hql, s _ _ _ (s _ _ _ (s _ _ _ (s _ _ _ (s _ _ _ hb))))⟩
end

section
open Go.RowKit
theorem encPos (x : Int) : 0 < (enc x).length := by
  unfold enc encGo
  split <;> simp
theorem own_base {w : World} {g n c B : Nat} {zs : List Int} (h : Own w g n c zs) (hB : B ≤ g) : w.ownsRow B 5 1 (.slice (some ⟨g, 0, none⟩) n c) n (zs.map (Value.int .u8)) := by
  refine ⟨h.1, ?_⟩
  rcases h.2 with ⟨h', _⟩ | ⟨g', cap', cur, h', _, rest⟩
  · simp at h'
  · refine .inr ⟨g', cap', cur, h', ?_, rest⟩
    simp only [Value.slice.injEq, Option.some.injEq, Addr.mk.injEq, and_true, true_and] at h'
    omega
theorem own_form {w : World} {B n : Nat} {v : Value} {zs : List Int} {s : ByteArray} (h : w.ownsRow B 5 1 v n (zs.map (Value.int .u8) ++ Lib.strCells s)) (hv : ¬ v = .slice none 0 0) :
    ∃ g c, v = .slice (some ⟨g, 0, none⟩) n c ∧ B ≤ g ∧ Own w g n c (zs ++ strZ s) := by
  have h1 := h
  rcases h.2 with ⟨h', _⟩ | ⟨g', cap', cur, rfl, hB, rest⟩
  · exact absurd h' hv
  · refine ⟨g', cap', rfl, hB, ?_⟩
    refine ⟨?_, .inr ⟨g', cap', cur, rfl, Nat.zero_le _, ?_⟩⟩
    · rw [List.map_append, ← strZ_cells]; exact h1.1
    · rw [List.map_append, ← strZ_cells]; exact rest
theorem encTs_one (s : ByteArray) : encTs [s] = encT s := by simp [encTs]
set_option maxHeartbeats 400000 in
theorem specPutText_any (ad : Addr) (n cap : Nat) (zs : List Int) (s : ByteArray) (w : World) (hn : zs.length = n) (hs : n ≤ 2000000) (hz : s.size ≤ 2000000) (hr : Rd w (some ad) zs) :
    Calls Tryz.prog 134 #[.slice (some ad) n cap, .string s] w (PutPost w (n + (enc (s.size : Int)).length + s.size) (zs ++ enc (s.size : Int) ++ strZ s)) := by
  obtain ⟨i0, hi, hz0, hz1, hz2⟩ := info_parts Tryz.info5
  have hn' : Hid (zs.length = n) := hn
  have hle := enc_len (s.size : Int)
  clear hn
  go_enter Tryz.func134, Tryz.ntmps134
  go_wp2_with fail
  refine (specPutNum_any ad n cap zs (s.size : Int) w hn'.out (by omega) hr).mono ?_
  rintro e w1 ⟨g, c, rfl, hg, ho, hb⟩
  have hob := own_base ho hg
  have hm1 : n + (enc (s.size : Int)).length + s.size ≤ maxLen := by unfold maxLen; omega
  go_wp2_with (at_builtin; refine Lib.wpList_append_own_string _ rfl (.tmp 8) (.tmp 9) 22 9 rfl w.heap.size 5 i0 Tryz.underlying22 Tryz.underlying9 hi hz0 hz1 hz2 (.slice (some ⟨g, 0, none⟩) (n + (enc (s.size : Int)).length) c) _ _ rfl hob s rfl hm1 (by omega) hb.size ?_; intro v' w2 ho2 hg2 hnil)
  obtain ⟨g2, c2, rfl, hg2', ho2'⟩ := own_form ho2 (fun e => by have := (hnil.1 e).1; simp at this)
  go_ret
  exact ⟨g2, c2, rfl, hg2', ho2', hb.grown hg2 hb.size (by intro k hk; simp [Value.ownBlock] at hk; omega)⟩
end
end Go.Proofs.YtoeeblmnogeonaaGreatDoor
