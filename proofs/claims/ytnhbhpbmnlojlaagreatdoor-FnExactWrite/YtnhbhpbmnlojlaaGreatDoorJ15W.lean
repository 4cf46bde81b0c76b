/-
  Joined: LogC, LogF, ChHo.
-/
import Derived.Test.YtnhbhpbmnlojlaaGreatDoorJ14W
import Derived.Deep.MidRow
import Derived.Deep.WholeRow
namespace Go.Proofs.YtnhbhpbmnlojlaaGreatDoor
section
open Go.RowKit
theorem Blk.log {W : World} {H : Nat} {t : TypeId} {v0 v1 v2 v3 v4 : Value} (h : Blk W H t #[v0, v1, v2, v3, v4]) : W.cell? ⟨H, 0, none⟩ = some v0 ∧ W.cell? ⟨H, 1, none⟩ = some v1 ∧ W.cell? ⟨H, 2, none⟩ = some v2 ∧ W.cell? ⟨H, 3, none⟩ = some v3 ∧ W.cell? ⟨H, 4, none⟩ = some v4 := ⟨h.cell 0, h.cell 1, h.cell 2, h.cell 3, h.cell 4⟩
/-- A new log was answered. -/
def LgA (w : World) (D : DvD) (seq : Int) (e : Ending) (w' : World) : Prop := ∃ a n c fa m fc qs, e = .returned (.agg #[.slice a n c, .int .i64 D.ops, .slice fa m fc, .bool D.down, .int .i64 seq]) ∧ NewDv w' w.heap.size a n c fa m fc D.ds D.fs qs ∧ qs.length = n ∧ Below w.heap.size w w'
set_option maxRecDepth 100000 in
set_option maxHeartbeats 8000000 in
theorem copyLogI (a : Option Addr) (n cap : Nat) (bs : List BkR) (ops : Int) (fa : Option Addr) (m fc : Nat) (fs : List FtD) (down : Bool) (seq : Int) (w : World) (ht : CR w a n bs) (hf : FR w fa m fs) :
    Calls Tryz.prog 37 #[.agg #[.slice a n cap, .int .i64 ops, .slice fa m fc, .bool down, .int .i64 seq]] w (LgA w ⟨bs.map BkR.D, ops, fs, down⟩ seq) := by
  have B0 : Below w.heap.size w ((w.alloc (.cells #[.slice a n cap, .int .i64 ops, .slice fa m fc, .bool down, .int .i64 seq] 39)).alloc (.cells #[.slice none 0 0, .int .i64 0, .slice none 0 0, .bool false, .int .i64 0] 39)) := ((Below.refl _ w).alloc (Nat.le_refl _) _).alloc (by simp) _
  have z0 := (Blk.new w 39 #[.slice a n cap, .int .i64 ops, .slice fa m fc, .bool down, .int .i64 seq]).alloc (.cells #[.slice none 0 0, .int .i64 0, .slice none 0 0, .bool false, .int .i64 0] 39)
  have z1 := Blk.new (w.alloc (.cells #[.slice a n cap, .int .i64 ops, .slice fa m fc, .bool down, .int .i64 seq] 39)) 39 #[.slice none 0 0, .int .i64 0, .slice none 0 0, .bool false, .int .i64 0]
  simp only [World.size_alloc] at z1
  obtain ⟨H, hH⟩ : ∃ H, w.heap.size = H := ⟨_, rfl⟩
  rw [hH] at z0 z1
  generalize hGP : LgA w ⟨bs.map BkR.D, ops, fs, down⟩ seq = P
  have HGP : Hid _ := hGP
  clear hGP
  go_enter Tryz.func37, Tryz.ntmps37
  go_upto_region 1 with fail
  obtain ⟨W0, hW0⟩ : ∃ W, (w.alloc (.cells #[.slice a n cap, .int .i64 ops, .slice fa m fc, .bool down, .int .i64 seq] 39)).alloc (.cells #[.slice none 0 0, .int .i64 0, .slice none 0 0, .bool false, .int .i64 0] 39) = W := ⟨_, rfl⟩
  rw [hW0] at B0 z0 z1 ⊢
  clear hW0
  have HD : Hid (Below w.heap.size w W0.drew) := B0.drew
  have HZ0 : Hid (Blk W0.drew H 39 #[.slice a n cap, .int .i64 ops, .slice fa m fc, .bool down, .int .i64 seq]) := z0.keep (Below.refl _ _).drew
  have HZ1 : Hid (Blk W0.drew (H + 1) 39 #[.slice none 0 0, .int .i64 0, .slice none 0 0, .bool false, .int .i64 0]) := z1.keep (Below.refl _ _).drew
  have hc0 := copyDevI a n cap bs ops fa m fc fs down W0.drew (ht.keep HD.out) (hf.keep HD.out)
  have hall : Hid (∀ W : World, Below W0.drew.heap.size W0.drew W → W.cell? ⟨H, 0, none⟩ = some (.slice a n cap) ∧ W.cell? ⟨H, 1, none⟩ = some (.int .i64 ops) ∧ W.cell? ⟨H, 2, none⟩ = some (.slice fa m fc) ∧ W.cell? ⟨H, 3, none⟩ = some (.bool down) ∧ W.cell? ⟨H, 4, none⟩ = some (.int .i64 seq)) := fun W hW => (Blk.keep HZ0.out hW).log
  obtain ⟨s0, s1, s2, s3, s4⟩ := hall.out W0.drew (Below.refl _ _)
  clear ht hf B0 z0 z1
  refine wp_region_noPanic ?_
  refine wp_region_last (fun W : World => W.cell? ⟨H, 0, none⟩ = some (.slice a n cap) ∧ W.cell? ⟨H, 1, none⟩ = some (.int .i64 ops) ∧ W.cell? ⟨H, 2, none⟩ = some (.slice fa m fc) ∧ W.cell? ⟨H, 3, none⟩ = some (.bool down) ∧ W.cell? ⟨H, 4, none⟩ = some (.int .i64 seq)) 6 (by kernel_rfl) (by kernel_rfl) (by go_keep) 6 (by kernel_rfl) (fun hS => ?_)
  refine wpAnyH_take (i := 0) (v := ?gv1) rfl (by kernel_rfl) (by kernel_rfl) (by kernel_rfl) (fun _ _ _ h => h) (Or.inl ⟨by kernel_rfl, ?gy1⟩) (by assumption) ?gr1
  case gy1 => (intro w' hSw; (try dsimp only at hSw); go_simp; (try with_reducible rfl))
  try simp only [Act.put, List.setIfInBounds_toArray, List.set_cons_zero, List.set_cons_succ, List.getElem_toArray, List.getElem_cons_zero]
  refine wpAnyH_take (i := 1) (v := ?gv2) rfl (by kernel_rfl) (by kernel_rfl) (by kernel_rfl) (fun _ _ _ h => h) (Or.inl ⟨by kernel_rfl, ?gy2⟩) (by assumption) ?gr2
  case gy2 => (intro w' hSw; (try dsimp only at hSw); go_simp; (try with_reducible rfl))
  try simp only [Act.put, List.setIfInBounds_toArray, List.set_cons_zero, List.set_cons_succ, List.getElem_toArray, List.getElem_cons_succ, List.getElem_cons_zero]
  refine wpAnyH_take (i := 3) (v := ?gv3) rfl (by kernel_rfl) (by kernel_rfl) (by kernel_rfl) (fun _ _ _ h => h) (Or.inl ⟨by kernel_rfl, ?gy3⟩) (by assumption) ?gr3
  case gy3 => (intro w' hSw; (try dsimp only at hSw); go_simp; (try with_reducible rfl))
  try simp only [Act.put, List.setIfInBounds_toArray, List.set_cons_zero, List.set_cons_succ, List.getElem_toArray, List.getElem_cons_succ, List.getElem_cons_zero]
  refine wpAnyH_take (i := 4) (v := ?gv4) rfl (by kernel_rfl) (by kernel_rfl) (by kernel_rfl) (fun _ _ _ h => h) (Or.inl ⟨by kernel_rfl, ?gy4⟩) (by assumption) ?gr4
  case gy4 => (intro w' hSw; (try dsimp only at hSw); go_simp; (try with_reducible rfl))
  try simp only [Act.put, List.setIfInBounds_toArray, List.set_cons_zero, List.set_cons_succ, List.getElem_toArray, List.getElem_cons_succ, List.getElem_cons_zero]
  refine wpAnyH_ready (rs := [2]) (by kernel_rfl) (by simp) ?_
  refine AllReadyH.cons rfl (fun K hK => ?_) AllReadyH.nil
  go_simp
  (with_reducible refine hc0.mono ?_)
  rintro e W9 ⟨a1, n1, c1, fa1, m1, fc1, qs, rfl, hq, hql, b1⟩
  have HND : Hid (NewDv W9 W0.drew.heap.size a1 n1 c1 fa1 m1 fc1 (bs.map BkR.D) fs qs ∧ qs.length = n1 ∧ Below W0.drew.heap.size W0.drew W9) := ⟨hq, hql, b1⟩
  clear hq hql b1
  have zr := Blk.keep HZ1.out HND.out.2.2
  obtain ⟨r0, r1, r2, r3, r4⟩ := zr.log
  have f0 := zr.frozen 0
  have f1 := zr.frozen 1
  have f2 := zr.frozen 2
  have f3 := zr.frozen 3
  have f4 := zr.frozen 4
  dsimp only
  clear hS
  try dsimp only
  refine Shut.out hK _ _ (hall.out W9 HND.out.2.2) (fun hS => ?_)
  try simp only [Act.put, List.setIfInBounds_toArray, List.set_cons_zero, List.set_cons_succ, List.getElem_toArray, List.getElem_cons_succ, List.getElem_cons_zero]
  refine wpAnyH_take (i := 5) (v := ?gv5) rfl (by kernel_rfl) (by kernel_rfl) (by kernel_rfl) (fun _ _ _ h => h) (Or.inl ⟨by kernel_rfl, ?gy5⟩) (by assumption) ?gr5
  case gy5 => (intro w' hSw; (try dsimp only at hSw); go_simp; (try with_reducible rfl))
  try simp only [Act.put, List.setIfInBounds_toArray, List.set_cons_zero, List.set_cons_succ, List.getElem_toArray, List.getElem_cons_succ, List.getElem_cons_zero]
  refine wpAnyH_done (by kernel_rfl) ?_ _
  refine wpOp_last rfl (fun K hK => ?_)
  clear hS
  go_simp
  refine Shut.out hK _ _ (NoPanic.normal ?_)
  all_goals (
    have zf := ((((zr.set 0 (.slice a1 n1 c1)).set 1 (.int .i64 ops)).set 2 (.slice fa1 m1 fc1)).set 3 (.bool down)).set 4 (.int .i64 seq)
    have d0 := zf.cell 0
    have d1 := zf.cell 1
    have d2 := zf.cell 2
    have d3 := zf.cell 3
    have d4 := zf.cell 4
    simp at d0 d1 d2 d3 d4
    clear zr zf r0 r1 r2 r3 r4 f0 f1 f2 f3 f4 hc0 s0 s1 s2 s3 s4
    go_wp2
    refine bodyPost_ret (v := .agg #[.slice a1 n1 c1, .int .i64 ops, .slice fa1 m1 fc1, .bool down, .int .i64 seq]) (by simp [results, Tryz.f37, go_sem, d0, d1, d2, d3, d4]) rfl ?_
    rw [← HGP.out]
    obtain ⟨hd, hl, hb⟩ := HND.out
    have h1 : H + 1 < W0.drew.heap.size := HZ1.out.lt
    have bel : Below w.heap.size w W9 := HD.out.trans (hb.mono HD.out.size)
    have s : ∀ (W : World) (i : Nat) (v : Value), Below w.heap.size w W → Below w.heap.size w (W.setCell ⟨H + 1, i, none⟩ v) := fun W i v hb => hb.setCell (p := ⟨H + 1, i, none⟩) (by simp only; omega) v
    exact ⟨a1, n1, c1, fa1, m1, fc1, qs, rfl, (((((hd.set_below h1).set_below h1).set_below h1).set_below h1).set_below h1).wider HD.out.size, hl, s _ _ _ (s _ _ _ (s _ _ _ (s _ _ _ (s _ _ _ bel))))⟩)
set_option maxRecDepth 100000 in
set_option maxHeartbeats 8000000 in
theorem copyLogS (a : Option Addr) (n cap : Nat) (bs : List BkR) (ops : Int) (fa : Option Addr) (m fc : Nat) (fs : List FtD) (down : Bool) (seq : Int) (w : World) (ht : CR w a n bs) (hf : FR w fa m fs) :
    Calls Tryz.prog 32 #[.agg #[.slice a n cap, .int .i64 ops, .slice fa m fc, .bool down, .int .i64 seq]] w (LgA w ⟨bs.map BkR.D, ops, fs, down⟩ seq) := by
  have B0 : Below w.heap.size w ((w.alloc (.cells #[.slice a n cap, .int .i64 ops, .slice fa m fc, .bool down, .int .i64 seq] 39)).alloc (.cells #[.slice none 0 0, .int .i64 0, .slice none 0 0, .bool false, .int .i64 0] 39)) := ((Below.refl _ w).alloc (Nat.le_refl _) _).alloc (by simp) _
  have z0 := (Blk.new w 39 #[.slice a n cap, .int .i64 ops, .slice fa m fc, .bool down, .int .i64 seq]).alloc (.cells #[.slice none 0 0, .int .i64 0, .slice none 0 0, .bool false, .int .i64 0] 39)
  have z1 := Blk.new (w.alloc (.cells #[.slice a n cap, .int .i64 ops, .slice fa m fc, .bool down, .int .i64 seq] 39)) 39 #[.slice none 0 0, .int .i64 0, .slice none 0 0, .bool false, .int .i64 0]
  simp only [World.size_alloc] at z1
  obtain ⟨H, hH⟩ : ∃ H, w.heap.size = H := ⟨_, rfl⟩
  rw [hH] at z0 z1
  generalize hGP : LgA w ⟨bs.map BkR.D, ops, fs, down⟩ seq = P
  have HGP : Hid _ := hGP
  clear hGP
  go_enter Tryz.func32, Tryz.ntmps32
  go_upto_region 1 with fail
  obtain ⟨W0, hW0⟩ : ∃ W, (w.alloc (.cells #[.slice a n cap, .int .i64 ops, .slice fa m fc, .bool down, .int .i64 seq] 39)).alloc (.cells #[.slice none 0 0, .int .i64 0, .slice none 0 0, .bool false, .int .i64 0] 39) = W := ⟨_, rfl⟩
  rw [hW0] at B0 z0 z1 ⊢
  clear hW0
  have HD : Hid (Below w.heap.size w W0.drew) := B0.drew
  have HZ0 : Hid (Blk W0.drew H 39 #[.slice a n cap, .int .i64 ops, .slice fa m fc, .bool down, .int .i64 seq]) := z0.keep (Below.refl _ _).drew
  have HZ1 : Hid (Blk W0.drew (H + 1) 39 #[.slice none 0 0, .int .i64 0, .slice none 0 0, .bool false, .int .i64 0]) := z1.keep (Below.refl _ _).drew
  have hc0 := copyDevS a n cap bs ops fa m fc fs down W0.drew (ht.keep HD.out) (hf.keep HD.out)
  have hall : Hid (∀ W : World, Below W0.drew.heap.size W0.drew W → W.cell? ⟨H, 0, none⟩ = some (.slice a n cap) ∧ W.cell? ⟨H, 1, none⟩ = some (.int .i64 ops) ∧ W.cell? ⟨H, 2, none⟩ = some (.slice fa m fc) ∧ W.cell? ⟨H, 3, none⟩ = some (.bool down) ∧ W.cell? ⟨H, 4, none⟩ = some (.int .i64 seq)) := fun W hW => (Blk.keep HZ0.out hW).log
  obtain ⟨s0, s1, s2, s3, s4⟩ := hall.out W0.drew (Below.refl _ _)
  clear ht hf B0 z0 z1
  refine wp_region_noPanic ?_
  refine wp_region_last (fun W : World => W.cell? ⟨H, 0, none⟩ = some (.slice a n cap) ∧ W.cell? ⟨H, 1, none⟩ = some (.int .i64 ops) ∧ W.cell? ⟨H, 2, none⟩ = some (.slice fa m fc) ∧ W.cell? ⟨H, 3, none⟩ = some (.bool down) ∧ W.cell? ⟨H, 4, none⟩ = some (.int .i64 seq)) 6 (by kernel_rfl) (by kernel_rfl) (by go_keep) 6 (by kernel_rfl) (fun hS => ?_)
  refine wpAnyH_take (i := 0) (v := ?gv6) rfl (by kernel_rfl) (by kernel_rfl) (by kernel_rfl) (fun _ _ _ h => h) (Or.inl ⟨by kernel_rfl, ?gy6⟩) (by assumption) ?gr6
  case gy6 => (intro w' hSw; (try dsimp only at hSw); go_simp; (try with_reducible rfl))
  try simp only [Act.put, List.setIfInBounds_toArray, List.set_cons_zero, List.set_cons_succ, List.getElem_toArray, List.getElem_cons_zero]
  refine wpAnyH_take (i := 1) (v := ?gv7) rfl (by kernel_rfl) (by kernel_rfl) (by kernel_rfl) (fun _ _ _ h => h) (Or.inl ⟨by kernel_rfl, ?gy7⟩) (by assumption) ?gr7
  case gy7 => (intro w' hSw; (try dsimp only at hSw); go_simp; (try with_reducible rfl))
  try simp only [Act.put, List.setIfInBounds_toArray, List.set_cons_zero, List.set_cons_succ, List.getElem_toArray, List.getElem_cons_succ, List.getElem_cons_zero]
  refine wpAnyH_take (i := 3) (v := ?gv8) rfl (by kernel_rfl) (by kernel_rfl) (by kernel_rfl) (fun _ _ _ h => h) (Or.inl ⟨by kernel_rfl, ?gy8⟩) (by assumption) ?gr8
  case gy8 => (intro w' hSw; (try dsimp only at hSw); go_simp; (try with_reducible rfl))
  try simp only [Act.put, List.setIfInBounds_toArray, List.set_cons_zero, List.set_cons_succ, List.getElem_toArray, List.getElem_cons_succ, List.getElem_cons_zero]
  refine wpAnyH_take (i := 4) (v := ?gv9) rfl (by kernel_rfl) (by kernel_rfl) (by kernel_rfl) (fun _ _ _ h => h) (Or.inl ⟨by kernel_rfl, ?gy9⟩) (by assumption) ?gr9
  case gy9 => (intro w' hSw; (try dsimp only at hSw); go_simp; (try with_reducible rfl))
  try simp only [Act.put, List.setIfInBounds_toArray, List.set_cons_zero, List.set_cons_succ, List.getElem_toArray, List.getElem_cons_succ, List.getElem_cons_zero]
  refine wpAnyH_ready (rs := [2]) (by kernel_rfl) (by simp) ?_
  refine AllReadyH.cons rfl (fun K hK => ?_) AllReadyH.nil
  go_simp
  (with_reducible refine hc0.mono ?_)
  rintro e W9 ⟨a1, n1, c1, fa1, m1, fc1, qs, rfl, hq, hql, b1⟩
  have HND : Hid (NewDv W9 W0.drew.heap.size a1 n1 c1 fa1 m1 fc1 (bs.map BkR.D) fs qs ∧ qs.length = n1 ∧ Below W0.drew.heap.size W0.drew W9) := ⟨hq, hql, b1⟩
  clear hq hql b1
  have zr := Blk.keep HZ1.out HND.out.2.2
  obtain ⟨r0, r1, r2, r3, r4⟩ := zr.log
  have f0 := zr.frozen 0
  have f1 := zr.frozen 1
  have f2 := zr.frozen 2
  have f3 := zr.frozen 3
  have f4 := zr.frozen 4
  dsimp only
  clear hS
  try dsimp only
  refine Shut.out hK _ _ (hall.out W9 HND.out.2.2) (fun hS => ?_)
  try simp only [Act.put, List.setIfInBounds_toArray, List.set_cons_zero, List.set_cons_succ, List.getElem_toArray, List.getElem_cons_succ, List.getElem_cons_zero]
  refine wpAnyH_take (i := 5) (v := ?gv10) rfl (by kernel_rfl) (by kernel_rfl) (by kernel_rfl) (fun _ _ _ h => h) (Or.inl ⟨by kernel_rfl, ?gy10⟩) (by assumption) ?gr10
  case gy10 => (intro w' hSw; (try dsimp only at hSw); go_simp; (try with_reducible rfl))
  try simp only [Act.put, List.setIfInBounds_toArray, List.set_cons_zero, List.set_cons_succ, List.getElem_toArray, List.getElem_cons_succ, List.getElem_cons_zero]
  refine wpAnyH_done (by kernel_rfl) ?_ _
  refine wpOp_last rfl (fun K hK => ?_)
  clear hS
  go_simp
  refine Shut.out hK _ _ (NoPanic.normal ?_)
  all_goals (
    have zf := ((((zr.set 0 (.slice a1 n1 c1)).set 1 (.int .i64 ops)).set 2 (.slice fa1 m1 fc1)).set 3 (.bool down)).set 4 (.int .i64 seq)
    have d0 := zf.cell 0
    have d1 := zf.cell 1
    have d2 := zf.cell 2
    have d3 := zf.cell 3
    have d4 := zf.cell 4
    simp at d0 d1 d2 d3 d4
    clear zr zf r0 r1 r2 r3 r4 f0 f1 f2 f3 f4 hc0 s0 s1 s2 s3 s4
    go_wp2
    refine bodyPost_ret (v := .agg #[.slice a1 n1 c1, .int .i64 ops, .slice fa1 m1 fc1, .bool down, .int .i64 seq]) (by simp [results, Tryz.f32, go_sem, d0, d1, d2, d3, d4]) rfl ?_
    rw [← HGP.out]
    obtain ⟨hd, hl, hb⟩ := HND.out
    have h1 : H + 1 < W0.drew.heap.size := HZ1.out.lt
    have bel : Below w.heap.size w W9 := HD.out.trans (hb.mono HD.out.size)
    have s : ∀ (W : World) (i : Nat) (v : Value), Below w.heap.size w W → Below w.heap.size w (W.setCell ⟨H + 1, i, none⟩ v) := fun W i v hb => hb.setCell (p := ⟨H + 1, i, none⟩) (by simp only; omega) v
    exact ⟨a1, n1, c1, fa1, m1, fc1, qs, rfl, (((((hd.set_below h1).set_below h1).set_below h1).set_below h1).set_below h1).wider HD.out.size, hl, s _ _ _ (s _ _ _ (s _ _ _ (s _ _ _ (s _ _ _ bel))))⟩)
end

section
open Go.RowKit
/-- Nothing is written, and it is not bad. -/
def freeB (b : BkD) : Bool := !b.bad && decide (nextP b.ps = 0)
/-- Some pages are written, but not all, and it is not bad. -/
def begB (b : BkD) : Bool := !b.bad && (decide (0 < nextP b.ps) && decide (nextP b.ps < b.ps.length))
/-- How many blocks are free. -/
def freeD (ds : List BkD) : Nat := (ds.filter freeB).length
theorem freeD_snoc (ds : List BkD) (b : BkD) : freeD (ds ++ [b]) = freeD ds + (if freeB b then 1 else 0) := by
  unfold freeD
  rw [List.filter_append]
  cases h : freeB b <;> simp [h]
theorem freeD_take {bs : List BkR} {k : Nat} {r : BkR} (h : bs[k]? = some r) : freeD ((bs.take (k + 1)).map BkR.D) = freeD ((bs.take k).map BkR.D) + (if freeB r.D then 1 else 0) := by
  rw [List.take_add_one, h]
  simp only [Option.toList_some, List.map_append, List.map_cons, List.map_nil]
  exact freeD_snoc _ _
theorem freeD_le (ds : List BkD) : freeD ds ≤ ds.length := List.length_filter_le _ _
/-- The place of the first that is so, or -1. -/
def fstD (p : BkD → Bool) (ds : List BkD) : Int := match ds.findIdx? p with | some k => (k : Int) | none => -1
theorem fstD_at {p : BkD → Bool} {bs : List BkR} {k : Nat} {r : BkR} (hk : bs[k]? = some r) (h : p r.D = true) (ha : ∀ (j : Nat) (q : BkR), j < k → bs[j]? = some q → p q.D = false) : fstD p (bs.map BkR.D) = (k : Int) := by
  have hf : (bs.map BkR.D).findIdx? p = some k := by
    obtain ⟨hl, he⟩ := List.getElem?_eq_some_iff.1 hk
    rw [List.findIdx?_eq_some_iff_getElem]
    refine ⟨by simpa using hl, by simpa [he] using h, fun j hj => ?_⟩
    have := ha j _ hj (List.getElem?_eq_getElem (by omega))
    simpa using this
  unfold fstD
  rw [hf]
theorem fstD_none {p : BkD → Bool} {bs : List BkR} (ha : ∀ (j : Nat) (q : BkR), bs[j]? = some q → p q.D = false) : fstD p (bs.map BkR.D) = -1 := by
  have hf : (bs.map BkR.D).findIdx? p = none := by
    rw [List.findIdx?_eq_none_iff]
    intro x hx
    obtain ⟨q, hq, rfl⟩ := List.mem_map.1 hx
    obtain ⟨j, hj⟩ := List.getElem?_of_mem hq
    exact ha j q hj
  unfold fstD
  rw [hf]
/-- The block that is written to next. -/
def openD (ds : List BkD) (spare : Int) : Int := if 0 ≤ fstD begB ds then fstD begB ds else if spare < (freeD ds : Int) then fstD freeB ds else -1
set_option maxHeartbeats 1600000 in
theorem isFreeI (a : Option Addr) (n cap : Nat) (wear : Int) (bad : Bool) (ps : List PgR) (w : World) (hn : ps.length = n) (hs : totP (ps.map PgR.D) ≤ 1048576) (hr : RdPs w a ps) :
    Calls Tryz.prog 50 #[.agg #[.slice a n cap, .int .i64 wear, .bool bad]] w fun e w' => e = .returned (.bool (freeB ⟨ps.map PgR.D, wear, bad⟩)) ∧ Below w.heap.size w w' := by
  have B0 : Below w.heap.size w (w.alloc (.cells #[.slice a n cap, .int .i64 wear, .bool bad] 82)) := (Below.refl _ w).alloc (Nat.le_refl _) _
  have z0 := Blk.new w 82 #[.slice a n cap, .int .i64 wear, .bool bad]
  have hcall := writtenI a n cap ps (w.alloc (.cells #[.slice a n cap, .int .i64 wear, .bool bad] 82)) hn hs (hr.keep B0)
  have hl : (ps.map PgR.D).length = n := by simp [hn]
  have hle := nextP_le (ps.map PgR.D)
  rw [hl] at hle
  have hnn := totP_len (ps.map PgR.D)
  rw [hl] at hnn
  have hx : freeB ⟨ps.map PgR.D, wear, bad⟩ = (!bad && decide (nextP (ps.map PgR.D) = 0)) := by rfl
  rw [hx]
  obtain ⟨m, hm⟩ : ∃ m, nextP (ps.map PgR.D) = m := ⟨_, rfl⟩
  rw [hm] at hcall hle ⊢
  have HB : Hid _ := B0
  clear B0 hr hm hl hx hn
  have q0 := z0.cell 0
  have q2 := z0.cell 2
  simp at q0 q2
  go_enter Tryz.func50, Tryz.ntmps50
  cases bad
  · go_wp2_with fail
    refine hcall.mono ?_
    rintro e w1 ⟨rfl, hb1⟩
    clear hcall
    by_cases h0 : m = 0
    · subst h0
      go_wp2
      go_ret
      exact ⟨rfl, HB.out.trans (hb1.mono HB.out.size)⟩
    · have h1 : ¬ (m : Int) = 0 := by omega
      have h2 : ((m : Int) == 0) = false := by simpa using h1
      go_wp2
      go_ret
      exact ⟨by simp [h0], HB.out.trans (hb1.mono HB.out.size)⟩
  · go_wp2
    go_ret
    exact ⟨rfl, HB.out⟩
set_option maxHeartbeats 1600000 in
theorem isBegunI (a : Option Addr) (n cap : Nat) (wear : Int) (bad : Bool) (ps : List PgR) (w : World) (hn : ps.length = n) (hs : totP (ps.map PgR.D) ≤ 1048576) (hr : RdPs w a ps) :
    Calls Tryz.prog 49 #[.agg #[.slice a n cap, .int .i64 wear, .bool bad]] w fun e w' => e = .returned (.bool (begB ⟨ps.map PgR.D, wear, bad⟩)) ∧ Below w.heap.size w w' := by
  have B0 : Below w.heap.size w (w.alloc (.cells #[.slice a n cap, .int .i64 wear, .bool bad] 82)) := (Below.refl _ w).alloc (Nat.le_refl _) _
  have z0 := Blk.new w 82 #[.slice a n cap, .int .i64 wear, .bool bad]
  have hcall := writtenI a n cap ps (w.alloc (.cells #[.slice a n cap, .int .i64 wear, .bool bad] 82)) hn hs (hr.keep B0)
  have hl : (ps.map PgR.D).length = n := by simp [hn]
  have hle := nextP_le (ps.map PgR.D)
  rw [hl] at hle
  have hnn := totP_len (ps.map PgR.D)
  rw [hl] at hnn
  have hx : begB ⟨ps.map PgR.D, wear, bad⟩ = (!bad && (decide (0 < nextP (ps.map PgR.D)) && decide (nextP (ps.map PgR.D) < n))) := by rw [← hl]; rfl
  rw [hx]
  obtain ⟨m, hm⟩ : ∃ m, nextP (ps.map PgR.D) = m := ⟨_, rfl⟩
  rw [hm] at hcall hle ⊢
  have HB : Hid _ := B0
  clear B0 hr hm hl hx hn
  go_enter Tryz.func49, Tryz.ntmps49
  go_wp2_with fail
  refine hcall.mono ?_
  rintro e w1 ⟨rfl, hb1⟩
  have t0 := (z0.keep hb1).cell 0
  have t2 := (z0.keep hb1).cell 2
  simp at t0 t2
  clear hcall z0
  cases bad
  · by_cases h0 : 0 < m
    · have h1 : (0 : Int) < (m : Int) := by omega
      by_cases h2 : m < n
      · have h3 : (m : Int) < (n : Int) := by omega
        go_wp2
        go_ret
        exact ⟨by simp [h0, h2], HB.out.trans (hb1.mono HB.out.size)⟩
      · have h3 : ¬ (m : Int) < (n : Int) := by omega
        go_wp2
        go_ret
        exact ⟨by simp [h2], HB.out.trans (hb1.mono HB.out.size)⟩
    · have h1 : ¬ (0 : Int) < (m : Int) := by omega
      go_wp2
      go_ret
      exact ⟨by simp [h0], HB.out.trans (hb1.mono HB.out.size)⟩
  · go_wp2
    go_ret
    exact ⟨rfl, HB.out.trans (hb1.mono HB.out.size)⟩
set_option maxRecDepth 100000 in
set_option maxHeartbeats 4000000 in
theorem freeI (a : Option Addr) (n cap : Nat) (bs : List BkR) (ops : Int) (fa : Option Addr) (m fc : Nat) (down : Bool) (seq : Int) (w : World) (ht : CR w a n bs) :
    Calls Tryz.prog 30 #[.agg #[.slice a n cap, .int .i64 ops, .slice fa m fc, .bool down, .int .i64 seq]] w fun e w' => e = .returned (.int .i64 (freeD (bs.map BkR.D) : Nat)) ∧ Below w.heap.size w w' := by
  have B0 : Below w.heap.size w (w.alloc (.cells #[.slice a n cap, .int .i64 ops, .slice fa m fc, .bool down, .int .i64 seq] 39)) := (Below.refl _ w).alloc (Nat.le_refl _) _
  have HT : Hid _ := ht.keep B0
  have HB : Hid _ := B0
  have hn1 := ht.n
  have hln : Hid (bs.length = n) := ht.len
  clear ht B0
  go_enter Tryz.func30, Tryz.ntmps30
  go_wp2
  obtain ⟨W0, hW0⟩ : ∃ W, (w.alloc (.cells #[.slice a n cap, .int .i64 ops, .slice fa m fc, .bool down, .int .i64 seq] 39)) = W := ⟨_, rfl⟩
  rw [hW0] at HB HT ⊢
  clear hW0
  go_loopw [3, 11] (fun c i wr => ∃ (k f : Nat), k ≤ n ∧ i = .int .i64 k ∧ c = .int .i64 f ∧ f ≤ k ∧ Hid (freeD ((bs.take k).map BkR.D) = f) ∧ Hid (Below W0.heap.size W0 wr)) (fun _ i _ => n - (intOf i).toNat)
  case atStart => exact ⟨0, 0, Nat.zero_le _, rfl, rfl, Nat.le_refl _, rfl, Below.refl _ _⟩
  case round =>
    obtain ⟨k, f, hk, rfl, rfl, hfk, hf, hB⟩ := hrel
    by_cases hkn : k < n
    · have hki : (k : Int) < (n : Int) := by omega
      obtain ⟨b, off, r, rfl, hlt, hrk, x3, hrp, htp⟩ := (HT.out.keep hB.out).some hkn
      obtain ⟨x0, x1, x2⟩ := x3
      have hnx := freeD_take hrk
      rw [hf.out] at hnx
      obtain ⟨n1, hn1⟩ : ∃ n1, r.ps.length = n1 := ⟨_, rfl⟩
      obtain ⟨wear, hwe⟩ : ∃ x, r.wear = x := ⟨_, rfl⟩
      obtain ⟨bad, hba⟩ : ∃ x, r.bad = x := ⟨_, rfl⟩
      obtain ⟨ra, hra⟩ : ∃ x, r.a = x := ⟨_, rfl⟩
      obtain ⟨rc, hrc⟩ : ∃ x, r.cap = x := ⟨_, rfl⟩
      have hbA : Below wr.heap.size wr (wr.alloc (.cells #[.slice ra n1 rc, .int .i64 wear, .bool bad] 82)) := (Below.refl _ wr).alloc (Nat.le_refl _) _
      have hcall := isFreeI r.a n1 r.cap r.wear r.bad r.ps (wr.alloc (.cells #[.slice ra n1 rc, .int .i64 wear, .bool bad] 82)) hn1 htp (hrp.keep hbA)
      have hbe : freeB r.D = freeB ⟨r.ps.map PgR.D, r.wear, r.bad⟩ := rfl
      rw [hbe] at hnx
      rw [hn1, hra, hrc] at x0
      rw [hwe] at x1 hcall hnx
      rw [hba] at x2 hcall hnx
      rw [hra, hrc] at hcall
      generalize freeB ⟨r.ps.map PgR.D, wear, bad⟩ = q at hcall hnx
      have HNX : Hid _ := hnx
      have HA : Hid _ := hbA
      clear hrk hn1 hwe hba hra hrc hbe hnx hrp htp hf hbA
      cases q
      · have HN : Hid (freeD ((bs.take (k + 1)).map BkR.D) = f) := by show _ = _; rw [HNX.out]; rfl
        clear HNX
        go_wp2_with fail
        refine hcall.mono ?_
        rintro e w1 ⟨rfl, hb1⟩
        have hB' : Hid (Below W0.heap.size W0 w1) := hB.out.trans ((HA.out.trans (hb1.mono HA.out.size)).mono hB.out.size)
        clear hcall hb1
        go_wp2
        go_roundw
        case rel => exact ⟨k + 1, f, by omega, by go_num, rfl, by omega, HN, hB'⟩
        case measure => simp [intOf]; omega
      · have HN : Hid (freeD ((bs.take (k + 1)).map BkR.D) = f + 1) := by show _ = _; rw [HNX.out]; rfl
        clear HNX
        go_wp2_with fail
        refine hcall.mono ?_
        rintro e w1 ⟨rfl, hb1⟩
        have hB' : Hid (Below W0.heap.size W0 w1) := hB.out.trans ((HA.out.trans (hb1.mono HA.out.size)).mono hB.out.size)
        clear hcall hb1
        go_wp2
        go_roundw
        case rel => exact ⟨k + 1, f + 1, by omega, by go_num, by go_num, by omega, HN, hB'⟩
        case measure => simp [intOf]; omega
    · have hki : ¬ (k : Int) < (n : Int) := by omega
      go_wp2
      go_ret
      have := hf.out
      rw [List.take_of_length_le (by rw [hln.out]; omega)] at this
      exact ⟨by rw [this]; rfl, HB.out.trans (hB.out.mono HB.out.size)⟩
set_option maxRecDepth 100000 in
set_option maxHeartbeats 2000000 in
theorem idxFree (a : Option Addr) (n cap : Nat) (bs : List BkR) (w : World) (ht : CR w a n bs) :
    Calls Tryz.prog 48 #[.slice a n cap, .func (.func 50) #[] #[]] w fun e w' => e = .returned (.int .i64 (fstD freeB (bs.map BkR.D))) ∧ Below w.heap.size w w' := by
  have hn1 := ht.n
  have HR : Hid _ := ht
  have hn' : Hid (bs.length = n) := ht.len
  have hY : Hid (∀ (k : Nat) (r : BkR), (∀ (j : Nat) (q : BkR), j < k → bs[j]? = some q → freeB q.D = false) → bs[k]? = some r → freeB r.D = true → (k : Int) = fstD freeB (bs.map BkR.D)) := fun k r h hk he => (fstD_at hk he h).symm
  have hE : Hid ((∀ (j : Nat) (q : BkR), j < n → bs[j]? = some q → freeB q.D = false) → (-1 : Int) = fstD freeB (bs.map BkR.D)) := fun h => (fstD_none (fun j q hq => h j q (by rw [← ht.len]; exact (List.getElem?_eq_some_iff.1 hq).1) hq)).symm
  generalize fstD freeB (bs.map BkR.D) = R at hY hE ⊢
  clear ht
  go_enter Tryz.func48, Tryz.ntmps48
  go_wp2
  go_loopw [8] (fun i wr => ∃ k : Nat, k ≤ n ∧ i = .int .i64 k ∧ Hid (∀ (j : Nat) (q : BkR), j < k → bs[j]? = some q → freeB q.D = false) ∧ Below w.heap.size w wr) (fun i _ => n - (intOf i).toNat)
  case atStart => exact ⟨0, Nat.zero_le _, rfl, fun j q hj => by omega, Below.refl _ _⟩
  case round =>
    obtain ⟨k, hk, rfl, hall, hB⟩ := hrel
    by_cases hkn : k < n
    · have hki : (k : Int) < (n : Int) := by omega
      obtain ⟨b, off, r, rfl, hlt, hrk, x3, hrp, htp⟩ := (HR.out.keep hB).some hkn
      obtain ⟨x0, x1, x2⟩ := x3
      have hcc := isFreeI r.a r.ps.length r.cap r.wear r.bad r.ps wr rfl htp hrp
      have hbe : freeB r.D = freeB ⟨r.ps.map PgR.D, r.wear, r.bad⟩ := rfl
      rw [← hbe] at hcc
      have hyes : Hid (freeB r.D = true → (k : Int) = R) := fun he => hY.out k r hall.out hrk he
      have hno : Hid (freeB r.D = false → ∀ (j : Nat) (q : BkR), j < k + 1 → bs[j]? = some q → freeB q.D = false) := by
        intro he j q hj hq
        rcases (show j < k ∨ j = k by omega) with h | rfl
        · exact hall.out j q h hq
        · rw [hrk] at hq
          simp at hq
          rw [← hq]
          exact he
      obtain ⟨n1, hn1⟩ : ∃ n1, r.ps.length = n1 := ⟨_, rfl⟩
      rw [hn1] at x0 hcc
      generalize freeB r.D = q at hcc hyes hno
      clear hrk hall hY hE HR hrp htp hbe hn1
      cases q
      · have hnx : Hid _ := hno.out rfl
        clear hyes hno
        go_wp2_with (go_at_call 50; (with_reducible refine hcc.mono ?_); rintro e w1 ⟨rfl, b1⟩)
        go_roundw
        case rel => exact ⟨k + 1, by omega, by go_num, hnx, hB.trans (b1.mono hB.size)⟩
        case measure => simp [intOf]; omega
      · have hend : Hid ((k : Int) = R) := hyes.out rfl
        clear hyes hno
        go_wp2_with (go_at_call 50; (with_reducible refine hcc.mono ?_); rintro e w1 ⟨rfl, b1⟩)
        go_ret
        exact ⟨ret_int hend.out, hB.trans (b1.mono hB.size)⟩
    · have hki : ¬ (k : Int) < (n : Int) := by omega
      have hend : Hid ((-1 : Int) = R) := hE.out (fun j q hj hq => hall.out j q (by omega) hq)
      clear hY hE HR hall
      go_wp2
      go_ret
      exact ⟨ret_int hend.out, hB⟩
set_option maxRecDepth 100000 in
set_option maxHeartbeats 2000000 in
theorem idxBegun (a : Option Addr) (n cap : Nat) (bs : List BkR) (w : World) (ht : CR w a n bs) :
    Calls Tryz.prog 48 #[.slice a n cap, .func (.func 49) #[] #[]] w fun e w' => e = .returned (.int .i64 (fstD begB (bs.map BkR.D))) ∧ Below w.heap.size w w' := by
  have hn1 := ht.n
  have HR : Hid _ := ht
  have hn' : Hid (bs.length = n) := ht.len
  have hY : Hid (∀ (k : Nat) (r : BkR), (∀ (j : Nat) (q : BkR), j < k → bs[j]? = some q → begB q.D = false) → bs[k]? = some r → begB r.D = true → (k : Int) = fstD begB (bs.map BkR.D)) := fun k r h hk he => (fstD_at hk he h).symm
  have hE : Hid ((∀ (j : Nat) (q : BkR), j < n → bs[j]? = some q → begB q.D = false) → (-1 : Int) = fstD begB (bs.map BkR.D)) := fun h => (fstD_none (fun j q hq => h j q (by rw [← ht.len]; exact (List.getElem?_eq_some_iff.1 hq).1) hq)).symm
  generalize fstD begB (bs.map BkR.D) = R at hY hE ⊢
  clear ht
  go_enter Tryz.func48, Tryz.ntmps48
  go_wp2
  go_loopw [8] (fun i wr => ∃ k : Nat, k ≤ n ∧ i = .int .i64 k ∧ Hid (∀ (j : Nat) (q : BkR), j < k → bs[j]? = some q → begB q.D = false) ∧ Below w.heap.size w wr) (fun i _ => n - (intOf i).toNat)
  case atStart => exact ⟨0, Nat.zero_le _, rfl, fun j q hj => by omega, Below.refl _ _⟩
  case round =>
    obtain ⟨k, hk, rfl, hall, hB⟩ := hrel
    by_cases hkn : k < n
    · have hki : (k : Int) < (n : Int) := by omega
      obtain ⟨b, off, r, rfl, hlt, hrk, x3, hrp, htp⟩ := (HR.out.keep hB).some hkn
      obtain ⟨x0, x1, x2⟩ := x3
      have hcc := isBegunI r.a r.ps.length r.cap r.wear r.bad r.ps wr rfl htp hrp
      have hbe : begB r.D = begB ⟨r.ps.map PgR.D, r.wear, r.bad⟩ := rfl
      rw [← hbe] at hcc
      have hyes : Hid (begB r.D = true → (k : Int) = R) := fun he => hY.out k r hall.out hrk he
      have hno : Hid (begB r.D = false → ∀ (j : Nat) (q : BkR), j < k + 1 → bs[j]? = some q → begB q.D = false) := by
        intro he j q hj hq
        rcases (show j < k ∨ j = k by omega) with h | rfl
        · exact hall.out j q h hq
        · rw [hrk] at hq
          simp at hq
          rw [← hq]
          exact he
      obtain ⟨n1, hn1⟩ : ∃ n1, r.ps.length = n1 := ⟨_, rfl⟩
      rw [hn1] at x0 hcc
      generalize begB r.D = q at hcc hyes hno
      clear hrk hall hY hE HR hrp htp hbe hn1
      cases q
      · have hnx : Hid _ := hno.out rfl
        clear hyes hno
        go_wp2_with (go_at_call 49; (with_reducible refine hcc.mono ?_); rintro e w1 ⟨rfl, b1⟩)
        go_roundw
        case rel => exact ⟨k + 1, by omega, by go_num, hnx, hB.trans (b1.mono hB.size)⟩
        case measure => simp [intOf]; omega
      · have hend : Hid ((k : Int) = R) := hyes.out rfl
        clear hyes hno
        go_wp2_with (go_at_call 49; (with_reducible refine hcc.mono ?_); rintro e w1 ⟨rfl, b1⟩)
        go_ret
        exact ⟨ret_int hend.out, hB.trans (b1.mono hB.size)⟩
    · have hki : ¬ (k : Int) < (n : Int) := by omega
      have hend : Hid ((-1 : Int) = R) := hE.out (fun j q hj hq => hall.out j q (by omega) hq)
      clear hY hE HR hall
      go_wp2
      go_ret
      exact ⟨ret_int hend.out, hB⟩
theorem fstD_lt (p : BkD → Bool) (ds : List BkD) : fstD p ds = -1 ∨ ∃ k : Nat, fstD p ds = (k : Int) ∧ k < ds.length := by
  unfold fstD
  cases h : ds.findIdx? p with
  | none => exact .inl rfl
  | some k => exact .inr ⟨k, rfl, by rw [List.findIdx?_eq_some_iff_getElem] at h; exact h.1⟩
set_option maxRecDepth 100000 in
set_option maxHeartbeats 4000000 in
theorem openI (a : Option Addr) (n cap : Nat) (bs : List BkR) (ops : Int) (fa : Option Addr) (m fc : Nat) (down : Bool) (seq spare : Int) (w : World) (ht : CR w a n bs) :
    Calls Tryz.prog 21 #[.agg #[.slice a n cap, .int .i64 ops, .slice fa m fc, .bool down, .int .i64 seq], .int .i64 spare] w fun e w' => e = .returned (.int .i64 (openD (bs.map BkR.D) spare)) ∧ Below w.heap.size w w' := by
  have B0 : Below w.heap.size w (w.alloc (.cells #[.slice a n cap, .int .i64 ops, .slice fa m fc, .bool down, .int .i64 seq] 39)) := (Below.refl _ w).alloc (Nat.le_refl _) _
  have z0 := Blk.new w 39 #[.slice a n cap, .int .i64 ops, .slice fa m fc, .bool down, .int .i64 seq]
  obtain ⟨W0, hW0⟩ : ∃ W, (w.alloc (.cells #[.slice a n cap, .int .i64 ops, .slice fa m fc, .bool down, .int .i64 seq] 39)) = W := ⟨_, rfl⟩
  have hn1 := ht.n
  have hl : (bs.map BkR.D).length = n := by simp [ht.len]
  have hca : ∀ W, Below W0.heap.size W0 W → CR W a n bs := fun W h => ht.keep (B0.trans (by rw [hW0]; exact h.mono (by rw [← hW0]; exact B0.size)))
  have cB := fun (W : World) (h : Below W0.heap.size W0 W) => idxBegun a n cap bs W (hca W h)
  have cF := fun (W : World) (h : Below W0.heap.size W0 W) => idxFree a n cap bs W (hca W h)
  have cN := fun (W : World) (h : Below W0.heap.size W0 W) => freeI a n cap bs ops fa m fc down seq W (hca W h)
  have hfl := freeD_le (bs.map BkR.D)
  rw [hl] at hfl
  have hbl := fstD_lt begB (bs.map BkR.D)
  rw [hl] at hbl
  have hop : openD (bs.map BkR.D) spare = if 0 ≤ fstD begB (bs.map BkR.D) then fstD begB (bs.map BkR.D) else if spare < (freeD (bs.map BkR.D) : Int) then fstD freeB (bs.map BkR.D) else -1 := rfl
  rw [hop]
  generalize fstD begB (bs.map BkR.D) = kb at cB hbl ⊢
  generalize fstD freeB (bs.map BkR.D) = kf at cF ⊢
  generalize freeD (bs.map BkR.D) = nf at cN hfl ⊢
  rw [hW0] at B0 z0
  have HB : Hid _ := B0
  have CB : Hid _ := cB
  have CF : Hid _ := cF
  have CN : Hid _ := cN
  clear ht hl hca B0 cB cF cN hop
  obtain ⟨Hs, hHs⟩ : ∃ H, w.heap.size = H := ⟨_, rfl⟩
  rw [hHs] at z0
  have q0 := z0.cell 0
  simp at q0
  go_enter Tryz.func21, Tryz.ntmps21
  go_wp2_with fail
  try rw [hW0]
  try rw [hHs]
  refine (CB.out W0 (Below.refl _ _)).mono ?_
  rintro e w1 ⟨rfl, b1⟩
  have z1 := z0.keep b1
  have q0 := z1.cell 0
  have q1 := z1.cell 1
  have q2 := z1.cell 2
  have q3 := z1.cell 3
  have q4 := z1.cell 4
  simp at q0 q1 q2 q3 q4
  have B1 := HB.out.trans (b1.mono HB.out.size)
  rcases hbl with rfl | ⟨k, rfl, hk⟩
  · by_cases hs : spare < (nf : Int)
    · go_wp2_with fail
      refine (CN.out w1 b1).mono ?_
      rintro e w2 ⟨rfl, b2⟩
      have q0 := (z1.keep b2).cell 0
      simp at q0
      have b12 := b1.trans (b2.mono b1.size)
      go_wp2_with fail
      refine (CF.out w2 b12).mono ?_
      rintro e w3 ⟨rfl, b3⟩
      have b13 := b12.trans (b3.mono b12.size)
      go_wp2
      go_ret
      rw [← hHs]
      exact ⟨rfl, HB.out.trans (b13.mono HB.out.size)⟩
    · go_wp2_with fail
      refine (CN.out w1 b1).mono ?_
      rintro e w2 ⟨rfl, b2⟩
      have b12 := b1.trans (b2.mono b1.size)
      go_wp2
      go_ret
      rw [← hHs]
      exact ⟨rfl, HB.out.trans (b12.mono HB.out.size)⟩
  · have h0 : ¬ (k : Int) < 0 := by omega
    go_wp2
    go_ret
    rw [← hHs]
    exact ⟨rfl, B1⟩
end

section
open Go.RowKit
theorem fk_cells {w : World} {b off k : Nat} {f : FkR} (h : ∀ j, j < fkE.k → w.cell? ⟨b, off + k * fkE.k + j, none⟩ = (fkE.en f)[j]?) {q0 q1 q2 q3 q4 q5 q6 q7 : PgR} (hq : f.ps = [q0, q1, q2, q3, q4, q5, q6, q7]) (j : Nat) (v : Value) (hv : (fk18 q0 q1 q2 q3 q4 q5 q6 q7 f.wear f.bad)[j]? = some v) : w.cell? ⟨b, off + k * 18 + j, none⟩ = some v := by
  have hj : j < 18 := (Array.getElem?_eq_some_iff.1 hv).1
  have h1 := h j hj
  have h2 : fkE.en f = (fk18 q0 q1 q2 q3 q4 q5 q6 q7 f.wear f.bad).toList := by
    show pgE.xv f.ps ++ [.int .i64 f.wear, .bool f.bad] = _
    rw [hq]
    rfl
  rw [h2] at h1
  exact h1.trans (by simpa using hv)
/-- Eight pages that lie flat in a box are pages that can be read. -/
theorem rd_flat {w : World} {K : Nat} {q0 q1 q2 q3 q4 q5 q6 q7 : PgR} {wear : Int} {bad : Bool} (h : Blk w K 200 (fk18 q0 q1 q2 q3 q4 q5 q6 q7 wear bad)) (hr : ∀ p ∈ [q0, q1, q2, q3, q4, q5, q6, q7], Rd w p.a p.zs) : RdPs w (some ⟨K, 0, none⟩) [q0, q1, q2, q3, q4, q5, q6, q7] := by
  refine .inr ⟨K, 0, rfl, fun i p hi => ⟨fun j hj => ?_, hr p (List.mem_of_getElem? hi)⟩⟩
  have hi8 : i < 8 := (List.getElem?_eq_some_iff.1 hi).1
  have hj2 : j < 2 := hj
  show w.cell? ⟨K, 0 + i * 2 + j, none⟩ = _
  rw [Nat.zero_add, h.cell (i * 2 + j)]
  rcases (show i = 0 ∨ i = 1 ∨ i = 2 ∨ i = 3 ∨ i = 4 ∨ i = 5 ∨ i = 6 ∨ i = 7 by omega) with rfl | rfl | rfl | rfl | rfl | rfl | rfl | rfl <;> rcases (show j = 0 ∨ j = 1 by omega) with rfl | rfl <;> simp at hi <;> subst hi <;> rfl
/-- A whole struct into the block that was made last, at the operation. -/
theorem wpList_store_new {ops : Array Oper} {rest : List Oper} {op : Oper} {a : Act} {W : World} {Q : Exit → Act → World → Prop} (hgd : op.guard = none) (t : TypeId) (x y : Operand) (ho : op.op = .store t x y) (c c' : Array Value)
    (hx : a.eval x = .pointer (some ⟨W.heap.size, 0, none⟩)) (hy : a.eval y = .agg c') (hi : (Tryz.prog.info? t).map (·.size) = some c'.size) (hs : c.size = c'.size) (h1 : c'.all (·.oneCell') = true)
    (h : wpList Tryz.prog ops Q rest (a.put op.dst undef) (W.alloc (.cells c' t))) : wpList Tryz.prog ops Q (op :: rest) a (W.alloc (.cells c t)) := by
  refine wpList_plain hgd fun K hK => ?_
  unfold Oper.wp execOp
  simp only [ho, hx, hy, Sem.run_bind, Sem.run_pure, Result.andThen_ok, run_storeAt_new W t c c' hi hs h1]
  exact hK _ _ h
theorem Tryz.sizeCells : (Tryz.prog.info? 200).map (·.size) = some 18 := by kernel_rfl
theorem fk18_one (q0 q1 q2 q3 q4 q5 q6 q7 : PgR) (wear : Int) (bad : Bool) : (fk18 q0 q1 q2 q3 q4 q5 q6 q7 wear bad).all (·.oneCell') = true := by simp [fk18, PgR.v, Value.oneCell']
set_option maxRecDepth 100000 in
set_option maxHeartbeats 8000000 in
theorem handedI (F : Nat) (a : Option Addr) (n cap : Nat) (fs : List FkR) (w : World) (hn : fs.length = n) (hs : totB (fs.map FkR.D) ≤ 1048576) (hF : Blk w F 209 #[.slice a n cap]) (hr : RdFs w a fs) :
    Calls Tryz.prog 162 #[.pointer (some ⟨F, 0, none⟩)] w (ChA w (fs.map FkR.D)) := by
  have hnn : n ≤ 1048576 := by have := totB_len (fs.map FkR.D); simp at this; omega
  have B0 : Below w.heap.size w (w.alloc (.cells #[.slice none 0 0] 34)) := (Below.refl _ w).alloc (Nat.le_refl _) _
  have hws : (w.alloc (.cells #[.slice none 0 0] 34)).heap.size = w.heap.size + 1 := by simp
  have z0 := Blk.new w 34 #[.slice none 0 0]
  have z1 := Blk.new (w.alloc (.cells #[.slice none 0 0] 34)) 34 #[.slice none 0 0]
  have cc0 : CC (w.alloc (.cells #[.slice none 0 0] 34)) ((w.alloc (.cells #[.slice none 0 0] 34)).alloc (.cells #[.slice none 0 0] 34)) (w.alloc (.cells #[.slice none 0 0] 34)).heap.size (.slice none 0 0) [] [] := CC.new ((Below.refl _ _).alloc (Nat.le_refl _) _) z1 (Nat.le_refl _)
  have hF1 := (hF.keep B0).keep cc0.bel
  have y0 := hF1.cell 0
  simp at y0
  have HR : Hid (RdFs (w.alloc (.cells #[.slice none 0 0] 34)) a fs) := hr.keep B0
  have HN : Hid (fs.length = n) := hn
  have HS : Hid _ := hs
  clear hr hF hF1 hn hs
  go_enter Tryz.func162, Tryz.ntmps162
  go_upto_region 3 with fail
  obtain ⟨W0, hW0⟩ : ∃ W, w.alloc (.cells #[.slice none 0 0] 34) = W := ⟨_, rfl⟩
  rw [hW0] at B0 z0 cc0 hws HR ⊢
  clear hW0 z1 y0
  obtain ⟨H, hH⟩ : ∃ H, w.heap.size = H := ⟨_, rfl⟩
  have HH : Hid _ := hH
  rw [hH] at z0 hws ⊢
  rw [hws] at cc0
  have HZ0 : Hid (Blk W0 H 34 #[.slice none 0 0]) := z0
  have HB0 : Hid (Below H w W0) := by rw [← hH]; exact B0
  have HW : Hid _ := hws
  clear z0 B0 hH hws
  go_loopw [12] (fun i wr => ∃ (k : Nat) (v : Value) (us : List BkR), k ≤ n ∧ i = .int .i64 k ∧ us.length = k ∧ Hid (CC W0 wr (H + 1) v us ((fs.take k).map FkR.D))) (fun i _ => n - (intOf i).toNat)
  case atStart => exact ⟨0, .slice none 0 0, [], by omega, rfl, rfl, cc0⟩
  case round =>
    obtain ⟨k, v, us, hk, rfl, hus, hcc⟩ := hrel
    clear cc0
    by_cases hkn : k < n
    · have hki : (k : Int) < (n : Int) := by omega
      obtain ⟨f, hfk⟩ : ∃ f, fs[k]? = some f := ⟨_, List.getElem?_eq_getElem (by rw [HN.out]; exact hkn)⟩
      obtain ⟨b, off, rfl, hlt, hc⟩ := RdE.lt (RdFs.keep HR.out hcc.out.bel) (by intro h; rw [h] at hfk; simp at hfk)
      obtain ⟨hcl, hrd⟩ := hc k f hfk
      have htot : 1 + totP (f.ps.map PgR.D) ≤ totB (fs.map FkR.D) := totB_mem (b := f.D) (bs := fs.map FkR.D) (List.mem_map_of_mem (List.mem_of_getElem? hfk))
      have hfD : Hid ((fs.take (k + 1)).map FkR.D = (fs.take k).map FkR.D ++ [⟨f.ps.map PgR.D, f.wear, f.bad⟩]) := by show _ = _; rw [List.take_add_one, hfk]; simp [FkR.D]
      have hts : totP (f.ps.map PgR.D) ≤ 1048576 := by have := HS.out; omega
      obtain ⟨q0, q1, q2, q3, q4, q5, q6, q7, hq⟩ := list8 f.h8
      rw [hq] at hrd hfD hts
      have hcs := fk_cells hcl hq
      generalize f.wear = wear at hcs hfD
      generalize f.bad = bad at hcs hfD
      have hrg : wr.rangeAt b (off + k * 18) (fk18 q0 q1 q2 q3 q4 q5 q6 q7 wear bad).toList := fun j v hv => hcs j v (by simpa using hv)
      have bE : Below wr.heap.size wr (wr.alloc (.cells (fk18 q0 q1 q2 q3 q4 q5 q6 q7 wear bad) 200)) := (Below.refl _ wr).alloc (Nat.le_refl _) _
      have zE := Blk.new wr 200 (fk18 q0 q1 q2 q3 q4 q5 q6 q7 wear bad)
      have cb8 := hcc.out.keep bE
      have hrp := rd_flat zE (fun p hp => (hrd p hp).keep bE)
      have hXE : H + 1 < wr.heap.size := hcc.out.x.lt
      have p16 := zE.cell 16
      have p17 := zE.cell 17
      have hCs : (fk18 q0 q1 q2 q3 q4 q5 q6 q7 wear bad).size = 18 := rfl
      have hC1 := fk18_one q0 q1 q2 q3 q4 q5 q6 q7 wear bad
      obtain ⟨C, hC⟩ : ∃ C, fk18 q0 q1 q2 q3 q4 q5 q6 q7 wear bad = C := ⟨_, rfl⟩
      have p16' : (wr.alloc (.cells C 200)).cell? ⟨wr.heap.size, 16, none⟩ = some (.int .i64 wear) := by rw [← hC]; exact p16
      have p17' : (wr.alloc (.cells C 200)).cell? ⟨wr.heap.size, 17, none⟩ = some (.bool bad) := by rw [← hC]; exact p17
      rw [hC] at zE cb8 hrp hrg hCs hC1
      have HS18 : Hid ((Tryz.prog.info? 200).map (·.size) = some C.toList.length) := by show _ = _; rw [Tryz.sizeCells]; simp [hCs]
      have HS18' : Hid ((Tryz.prog.info? 200).map (·.size) = some C.size) := by show _ = _; rw [Tryz.sizeCells, hCs]
      have HCS : Hid _ := hCs
      have HC1 : Hid _ := hC1
      have HRG : Hid (wr.rangeAt b (off + k * 18) C.toList) := hrg
      clear hcs hcl hrd hfk hc htot hq bE hC p16 p17 hrg hCs hC1
      obtain ⟨W8, hW8⟩ : ∃ W, wr.alloc (.cells C 200) = W := ⟨_, rfl⟩
      have HW8 : Hid _ := hW8
      rw [hW8] at zE cb8 hrp p16' p17'
      clear hW8
      go_upto_region 4 with fail
      go_cut [5, 6, 7, 8, 9, 10, 11, 12] from 5 to 29 (fun s s6 s7 s8 s9 t l i wx => s6 = .agg #[.slice none 0 0] ∧ s7 = .pointer (some ⟨F, 0, none⟩) ∧ s8 = .pointer (some ⟨F, 0, none⟩) ∧ s9 = .pointer (some ⟨F, 0, none⟩) ∧ s = .pointer (some ⟨wr.heap.size, 0, none⟩) ∧ t = .slice (some ⟨b, off, none⟩) n cap ∧ l = .int .i64 (n : Int) ∧ i = .int .i64 (k : Int) ∧ wx = W8)
      case first =>
        clear zE cb8 hrp p16' p17'
        go_wp2_with (first
          | (refine wpList_load_mid rfl 200 (.tmp 14) rfl b (off + k * 18) rfl C.toList _ HRG.out Tryz.underlying200 rfl HS18.out ?_; rw [Array.toArray_toList])
          | (refine wpList_store_new rfl 200 (.tmp 5) (.tmp 15) rfl _ C rfl rfl HS18'.out (by rw [HCS.out]; rfl) HC1.out ?_))
        go_meet
        exact ⟨rfl, rfl, rfl, rfl, rfl, rfl, rfl, rfl, HW8.out⟩
      case rest =>
      obtain ⟨rfl, rfl, rfl, rfl, rfl, rfl, rfl, rfl, hwc⟩ := hcut
      subst hwc
      obtain ⟨W8, hW8⟩ : ∃ W, W = wc := ⟨_, rfl⟩
      subst hW8
      clear HW8 hlt HRG HS18 HS18' HCS HC1
      go_upto_region 5 with fail
      obtain ⟨E, hE⟩ : ∃ E, wr.heap.size = E := ⟨_, rfl⟩
      rw [hE] at zE hrp hXE p16' p17' ⊢
      clear hE hcc
      have hEX : E ≠ H + 1 := by omega
      have hEX' : H + 1 ≠ E := by omega
      have x0 := cb8.x.cell 0
      simp at x0
      have hcall := copyBlkI (some ⟨E, 0, none⟩) 8 8 wear bad [q0, q1, q2, q3, q4, q5, q6, q7] W8.drew rfl hts hrp
      have HC8 : Hid (CC W0 W8.drew (H + 1) v us ((fs.take k).map FkR.D)) := cb8.keep (Below.refl _ _).drew
      clear cb8 zE hrp
      go_region_law (first
        | (go_simp; go_at_call 123; (with_reducible refine hcall.mono ?_); rintro e W9 ⟨a1, c1, qs, rfl, hnp, b9⟩; have cb9 := HC8.out.keep b9; have x0' := cb9.x.cell 0; have x0'' := (cb9.x.alloc (.cells #[.slice a1 8 c1, .int .i64 wear, .bool bad] 82)).cell 0; simp at x0' x0''; have hrow := cb9.row; rw [hus] at hrow; have happ := fun ty => app_block W9 v us k hus (by omega) hrow ⟨a1, c1, qs, wear, bad⟩ ty 8 (by rw [hnp.len]; simp); dsimp only)
        | (refine step_appAny (W9.alloc (.cells #[.slice a1 8 c1, .int .i64 wear, .bool bad] 82)) rfl (.tmp 17) (.tmp 26) 32 rfl v (.slice (some ⟨W9.heap.size, 0, none⟩) 1 1) _ rfl rfl happ ?_; intro v2 W10 hap2; obtain ⟨a2, c2, rfl, _⟩ := OwnE.rd (rd := fun _ => True) hap2.own (fun _ _ => trivial); have hxg := blk_gr (cb9.x.alloc (.cells #[.slice a1 8 c1, .int .i64 wear, .bool bad] 82)) hap2.gr (fun e => (cb9.vn (H + 1) e).2.1 rfl); have g0 := hxg.cell 0; have gf := hxg.frozen 0; simp at g0; dsimp only))
      all_goals (have ccn : CC W0 (W10.setCell ⟨H + 1, 0, none⟩ (.slice a2 (k + 1) c2)) (H + 1) (.slice a2 (k + 1) c2) (us ++ [⟨a1, c1, qs, wear, bad⟩]) ((fs.take k).map FkR.D ++ [⟨[q0, q1, q2, q3, q4, q5, q6, q7].map PgR.D, wear, bad⟩]) := CC.step HC8.out hus (by rw [hnp.len]; simp) b9 hnp hap2 (by simp [hus]); rw [← hfD.out] at ccn; have CCN : Hid _ := ccn; have hul : (us ++ [⟨a1, c1, qs, wear, bad⟩] : List BkR).length = k + 1 := (by simp [hus]); clear ccn hap2 happ hxg g0 gf x0 x0' x0'' p16' p17' hcall cb9 hrow hnp b9)
      all_goals go_wp2
      all_goals go_roundw
      all_goals first
        | (case rel => exact ⟨k + 1, _, _, by omega, by go_num, hul, CCN⟩)
        | (case measure => simp [intOf]; omega)
    · have hki : ¬ (k : Int) < (n : Int) := by omega
      obtain rfl : k = n := by omega
      have hco := hcc.out
      rw [List.take_of_length_le (by rw [HN.out]; omega)] at hco
      obtain ⟨va, vc, rfl, _⟩ := OwnE.rd (rd := fun _ => True) hco.row (fun _ _ => trivial)
      rw [hus] at hco
      have x0 := hco.x.cell 0
      have zr := Blk.keep HZ0.out hco.bel
      have r0 := zr.cell 0
      have f0 := zr.frozen 0
      have zf := zr.set 0 (.slice va k vc)
      have d0 := zf.cell 0
      simp at x0 r0 d0
      have HC : Hid _ := hco
      clear hco zr zf hcc
      go_wp2
      refine bodyPost_ret (v := .agg #[.slice va k vc]) (by simp [results, Tryz.f162, go_sem, d0]) rfl ?_
      have hc := HC.out
      have hw := HW.out
      have hH := HH.out
      have hbs := HB0.out
      have bel : Below w.heap.size w wr := by rw [hH]; exact hbs.trans (hc.bel.mono (by omega))
      exact ⟨va, k, vc, us, rfl, NewBs.wider (B := W0.heap.size) (NewBs.set_below (B := W0.heap.size) (j := H) (hc.done hus) (by omega)) (by omega), hus, bel.setCell (p := ⟨H, 0, none⟩) (by simp only; omega) _⟩
end
end Go.Proofs.YtnhbhpbmnlojlaaGreatDoor
