/-
  Joined: DvN, RowX.
-/
import Derived.Test.YtmjifealomgcfaaJ23V
import Derived.Test.YtmjifealomgcfaaJ24V
namespace Go.Proofs.Ytmjifealomgcfaa
section
open Go.RowKit
set_option maxRecDepth 100000 in
set_option maxHeartbeats 4000000 in
theorem devOkS (a : Option Addr) (n cap : Nat) (bs : List BkR) (ops : Int) (fa : Option Addr) (m fc : Nat) (fs : List FtD) (down : Bool) (w : World) (ht : CR w a n bs) (hf : FR w fa m fs) :
    Calls Try.prog 17 #[.agg #[.slice a n cap, .int .i64 ops, .slice fa m fc, .bool down]] w fun e w' => e = .returned (.bool (devB (bs.map BkR.D) ops fs)) ∧ Below w.heap.size w w' := by
  have B0 : Below w.heap.size w (w.alloc (.cells #[.slice a n cap, .int .i64 ops, .slice fa m fc, .bool down] 29)) := (Below.refl _ w).alloc (Nat.le_refl _) _
  have z0 := Blk.new w 29 #[.slice a n cap, .int .i64 ops, .slice fa m fc, .bool down]
  have hcall := chipOkS a n cap bs (w.alloc (.cells #[.slice a n cap, .int .i64 ops, .slice fa m fc, .bool down] 29)) (ht.keep B0)
  unfold devB
  have hc2 := fun W : World => l1In_any ops 0 100000 W
  have hc3 := fun (W : World) (h : FR W fa m fs) => l11Faults_any fa m fc fs W h
  generalize chipOkB (bs.map BkR.D) = p at hcall ⊢
  generalize (decide (0 ≤ ops) && decide (ops ≤ 100000)) = q at hc2 ⊢
  generalize faultsB fs = r at hc3 ⊢
  have HF : Hid _ := hf.keep B0
  have HB : Hid _ := B0
  clear ht hf B0
  go_enter Try.func17, Try.ntmps17
  go_wp2_with fail
  refine hcall.mono ?_
  rintro e w1 ⟨rfl, hb1⟩
  clear hcall
  have z1 := z0.keep hb1
  have B1 := HB.out.trans (hb1.mono HB.out.size)
  cases p
  · go_wp2
    go_ret
    exact ⟨rfl, B1⟩
  · have y1 := z1.cell 1
    have y2 := z1.cell 2
    simp at y1 y2
    have hc2 := hc2 w1
    have hc3 := hc3 w1 (HF.out.keep hb1)
    clear z0 z1 hb1
    go_wp2_with fail
    refine hc2.mono ?_
    rintro e w2 ⟨rfl, hw⟩
    obtain rfl := hw.symm
    clear hc2
    cases q
    · go_wp2
      go_ret
      exact ⟨rfl, B1⟩
    · go_wp2_with fail
      refine hc3.mono ?_
      rintro e w2 ⟨rfl, hb2⟩
      clear hc3 y1 y2
      go_wp2
      go_ret
      exact ⟨by simp, B1.trans (hb2.mono B1.size)⟩
/-- What DevNew answers. -/
noncomputable def devN (x : Int) (fs : List FtD) : DvD := if devB (newD x) 0 fs = true then ⟨newD x, 0, fs, false⟩ else ⟨[], 0, [], false⟩
theorem newD_tot (x : Int) : totB (newD x) ≤ 1048576 := by
  unfold newD
  split
  · have : totB (List.replicate x.toNat bkN) = x.toNat * 9 := by
      simp only [totB, List.map_replicate, List.sum_replicate_nat]
      rfl
    omega
  · simp [totB]
theorem NewBs.cr {w : World} {B n c : Nat} {a : Option Addr} {ds : List BkD} {qs : List BkR} (h : NewBs w B (.slice a n c) ds qs) (hl : qs.length = n) (ht : totB ds ≤ 1048576) : CR w a n qs := ⟨hl, by rw [h.D]; exact ht, h.rd⟩
theorem newDv_zero (w : World) (B : Nat) : NewDv w B none 0 0 none 0 0 [] [] [] :=
  ⟨⟨rfl, ⟨ownE_nil _ _ _, fun b hb => by simp at hb⟩, fun g hg => by simp [fpBs, Value.ownBlock] at hg, by simp [fpBs, Value.ownBlock]⟩, faults_nil w, fun g hg => by simp [Value.ownBlock] at hg⟩
set_option maxRecDepth 100000 in
set_option maxHeartbeats 4000000 in
theorem devNewI (x : Int) (fa : Option Addr) (m fc : Nat) (fs : List FtD) (w : World) (hf : FR w fa m fs) :
    Calls Try.prog 10 #[.int .i64 x, .slice fa m fc] w (DvA w (devN x fs)) := by
  have B0 : Below w.heap.size w (w.alloc (.cells #[.slice none 0 0, .int .i64 0, .slice none 0 0, .bool false] 29)) := (Below.refl _ w).alloc (Nat.le_refl _) _
  have z0 := Blk.new w 29 #[.slice none 0 0, .int .i64 0, .slice none 0 0, .bool false]
  have HF : Hid _ := hf.keep B0
  have HB : Hid _ := B0
  generalize hGP : DvA w (devN x fs) = P
  have HGP : Hid _ := hGP
  clear hf B0 hGP
  obtain ⟨H, hH⟩ : ∃ H, w.heap.size = H := ⟨_, rfl⟩
  have HH : Hid _ := hH
  rw [hH] at z0
  go_enter Try.func10, Try.ntmps10
  go_wp2_with fail
  obtain ⟨W0, hW0⟩ : ∃ W, w.alloc (.cells #[.slice none 0 0, .int .i64 0, .slice none 0 0, .bool false] 29) = W := ⟨_, rfl⟩
  rw [hW0] at HF HB z0 ⊢
  try rw [hH]
  clear hW0 hH
  refine (chipNewI x W0).mono ?_
  rintro e w1 ⟨a1, n1, c1, qs, rfl, hq, hql, hb1⟩
  have b2 : Below w1.heap.size w1 (w1.alloc (.cells #[.slice a1 n1 c1, .int .i64 0, .slice fa m fc, .bool false] 29)) := (Below.refl _ w1).alloc (Nat.le_refl _) _
  have zd := Blk.new w1 29 #[.slice a1 n1 c1, .int .i64 0, .slice fa m fc, .bool false]
  go_upto_region 2 with fail
  obtain ⟨W2, hW2⟩ : ∃ W, w1.alloc (.cells #[.slice a1 n1 c1, .int .i64 0, .slice fa m fc, .bool false] 29) = W := ⟨_, rfl⟩
  rw [hW2] at b2 zd ⊢
  clear hW2
  have hXl := z0.lt
  have hX0 := hb1.size
  obtain ⟨X, hX⟩ : ∃ X, w1.heap.size = X := ⟨_, rfl⟩
  have hql2 : Hid (∀ g ∈ fpBs (.slice a1 n1 c1) qs, g < X) := fun g hg => by rw [← hX]; exact hq.own.lt g hg
  rw [hX] at zd hX0
  try rw [hX]
  have b02 := hb1.trans (b2.mono hb1.size)
  have z2 := z0.keep b02
  have q2 := hq.keep b2
  have F2 := HF.out.keep b02
  clear hb1 b2 hq HF hX z0
  have hcall := devOkI a1 n1 c1 qs 0 fa m fc fs false W2 (q2.cr hql (newD_tot x)) F2
  rw [q2.D] at hcall
  have y0 := zd.cell 0
  have y1 := zd.cell 1
  have y2 := zd.cell 2
  have y3 := zd.cell 3
  simp at y0 y1 y2 y3
  go_wp2_with fail
  refine hcall.mono ?_
  rintro e w3 ⟨rfl, b3⟩
  clear hcall y0 y1 y2 y3
  have b03 := b02.trans (b3.mono b02.size)
  have zr := z2.keep b3
  have zx := zd.keep b3
  have q3 := q2.keep b3
  have F3 := F2.keep b3
  clear z2 zd q2 F2 b02 b3
  cases hd : devB (newD x) 0 fs with
  | false =>
    have HD : Hid (devN x fs = ⟨[], 0, [], false⟩) := by show _ = _; unfold devN; rw [hd]; rfl
    have r0 := zr.cell 0
    have r1 := zr.cell 1
    have r2 := zr.cell 2
    have r3 := zr.cell 3
    have g0 := zr.frozen 0
    have g1 := zr.frozen 1
    have g2 := zr.frozen 2
    have g3 := zr.frozen 3
    have zf := (((zr.set 0 (.slice none 0 0)).set 1 (.int .i64 0)).set 2 (.slice none 0 0)).set 3 (.bool false)
    have d0 := zf.cell 0
    have d1 := zf.cell 1
    have d2 := zf.cell 2
    have d3 := zf.cell 3
    simp at r0 r1 r2 r3 d0 d1 d2 d3
    have HBB : Hid (Below w.heap.size w w3) := HB.out.trans (b03.mono HB.out.size)
    clear zr zf zx q3 F3 b03 hd
    go_wp2
    refine bodyPost_ret (v := .agg #[.slice none 0 0, .int .i64 0, .slice none 0 0, .bool false]) (by simp [results, Try.f10, go_sem, d0, d1, d2, d3]) rfl ?_
    rw [← HGP.out, HD.out]
    have hH := HH.out
    have s : ∀ (W : World) (i : Nat) (v : Value), Below w.heap.size w W → Below w.heap.size w (W.setCell ⟨H, i, none⟩ v) := fun W i v hb => hb.setCell (p := ⟨H, i, none⟩) (by simp only; omega) v
    exact ⟨none, 0, 0, none, 0, 0, [], rfl, newDv_zero _ _, rfl, s _ _ _ (s _ _ _ (s _ _ _ (s _ _ _ HBB.out)))⟩
  | true =>
    have HD : Hid (devN x fs = ⟨newD x, 0, fs, false⟩) := by show _ = _; unfold devN; rw [hd]; rfl
    have hcall := copyFaultsI fa m fc fs w3 F3
    clear F3 hd
    go_wp2_with fail
    refine hcall.mono ?_
    rintro e w4 ⟨fa1, fc1, rfl, hfo, hfn, b4⟩
    clear hcall
    have hx3 := zx.lt
    have zr4 := zr.keep b4
    have zx4 := zx.keep b4
    have c2 := zx4.cell 2
    have f2 := zx4.frozen 2
    have zx5 := zx4.set 2 (.slice fa1 m fc1)
    have y0 := zx5.cell 0
    have y1 := zx5.cell 1
    have y2 := zx5.cell 2
    have y3 := zx5.cell 3
    have zr5 := zr4.other (B' := X) (by omega) 2 (.slice fa1 m fc1)
    have r0 := zr5.cell 0
    have r1 := zr5.cell 1
    have r2 := zr5.cell 2
    have r3 := zr5.cell 3
    have g0 := zr5.frozen 0
    have g1 := zr5.frozen 1
    have g2 := zr5.frozen 2
    have g3 := zr5.frozen 3
    have zf := (((zr5.set 0 (.slice a1 n1 c1)).set 1 (.int .i64 0)).set 2 (.slice fa1 m fc1)).set 3 (.bool false)
    have d0 := zf.cell 0
    have d1 := zf.cell 1
    have d2 := zf.cell 2
    have d3 := zf.cell 3
    simp at c2 y0 y1 y2 y3 r0 r1 r2 r3 d0 d1 d2 d3
    have b04 := b03.trans (b4.mono b03.size)
    have hnd : NewDv w4 W0.heap.size a1 n1 c1 fa1 m fc1 (newD x) fs qs := ⟨q3.keep b4, hfo, fun g hg => ⟨by have := hfn g hg; have := b03.size; omega, fun h => by have := q3.own.lt g h; have := hfn g hg; omega⟩⟩
    have hnd5 : NewDv (w4.setCell ⟨X, 2, none⟩ (.slice fa1 m fc1)) W0.heap.size a1 n1 c1 fa1 m fc1 (newD x) fs qs := hnd.svs (F := [X]) (Sv.gr (gr_setC _ X 2 _) (fun g hg => by simp at hg; simp [hg])) (fun g hg hf => by
      simp at hf
      subst hf
      rcases List.mem_append.1 hg with h | h
      · have := hql2.out _ h; omega
      · have := hfn g (by simpa using h); omega)
    have HN : Hid (NewDv (w4.setCell ⟨X, 2, none⟩ (.slice fa1 m fc1)) W0.heap.size a1 n1 c1 fa1 m fc1 (newD x) fs qs ∧ qs.length = n1 ∧ H < W0.heap.size ∧ Below w.heap.size w (w4.setCell ⟨X, 2, none⟩ (.slice fa1 m fc1))) := ⟨hnd5, hql, hXl, (HB.out.trans (b04.mono HB.out.size)).setCell (p := ⟨X, 2, none⟩) (by have := HH.out; simp only; omega) _⟩
    clear hnd hnd5 hfo hfn b4 b04 b03 q3 zr zx zr4 zx4 zx5 zr5 zf hql hql2
    go_wp2
    refine bodyPost_ret (v := .agg #[.slice a1 n1 c1, .int .i64 0, .slice fa1 m fc1, .bool false]) (by simp [results, Try.f10, go_sem, d0, d1, d2, d3]) rfl ?_
    rw [← HGP.out, HD.out]
    obtain ⟨hnd, hl, h1, hb⟩ := HN.out
    have hH := HH.out
    have s : ∀ (W : World) (i : Nat) (v : Value), Below w.heap.size w W → Below w.heap.size w (W.setCell ⟨H, i, none⟩ v) := fun W i v hb => hb.setCell (p := ⟨H, i, none⟩) (by simp only; omega) v
    exact ⟨a1, n1, c1, fa1, m, fc1, qs, rfl, ((((hnd.set_below h1).set_below h1).set_below h1).set_below h1).wider (by omega), hl, s _ _ _ (s _ _ _ (s _ _ _ (s _ _ _ hb)))⟩
set_option maxRecDepth 100000 in
set_option maxHeartbeats 4000000 in
theorem devNewS (x : Int) (fa : Option Addr) (m fc : Nat) (fs : List FtD) (w : World) (hf : FR w fa m fs) :
    Calls Try.prog 8 #[.int .i64 x, .slice fa m fc] w (DvA w (devN x fs)) := by
  have B0 : Below w.heap.size w (w.alloc (.cells #[.slice none 0 0, .int .i64 0, .slice none 0 0, .bool false] 29)) := (Below.refl _ w).alloc (Nat.le_refl _) _
  have z0 := Blk.new w 29 #[.slice none 0 0, .int .i64 0, .slice none 0 0, .bool false]
  have HF : Hid _ := hf.keep B0
  have hfm := hf.tot
  have HB : Hid _ := B0
  generalize hGP : DvA w (devN x fs) = P
  have HGP : Hid _ := hGP
  clear hf B0 hGP
  obtain ⟨H, hH⟩ : ∃ H, w.heap.size = H := ⟨_, rfl⟩
  have HH : Hid _ := hH
  rw [hH] at z0
  go_enter Try.func8, Try.ntmps8
  go_wp2_with fail
  obtain ⟨W0, hW0⟩ : ∃ W, w.alloc (.cells #[.slice none 0 0, .int .i64 0, .slice none 0 0, .bool false] 29) = W := ⟨_, rfl⟩
  rw [hW0] at HF HB z0 ⊢
  try rw [hH]
  clear hW0 hH
  refine (chipNewS x W0).mono ?_
  rintro e w1 ⟨a1, n1, c1, qs, rfl, hq, hql, hb1⟩
  have bA : Below w1.heap.size w1 (w1.alloc (.cells #[] 47)) := (Below.refl _ w1).alloc (Nat.le_refl _) _
  have happ := fun ty => app_faults (w1.alloc (.cells #[] 47)) (.slice (some ⟨w1.heap.size, 0, none⟩) 0 0) (faults_fresh w1) fa m fc fs ((HF.out.keep hb1).keep bA) ty
  have HAP : Hid _ := happ
  have HBA : Hid _ := bA
  clear happ bA
  go_wp2_with (at_builtin; refine wpList_appAny _ rfl (.tmp 8) (.tmp 9) 27 rfl (.slice (some ⟨w1.heap.size, 0, none⟩) 0 0) (.slice fa m fc) _ rfl rfl HAP.out ?_; intro v' w2 hap; obtain ⟨fa1, fc1, rfl⟩ := hap.form)
  have hnw := hap.new HBA.out (fun g hg => by simp [Value.ownBlock] at hg; omega)
  have hnd := dv_ab hq hb1 hap.own hnw.1 hnw.2
  have hb2 := hb1.trans (hnw.2.mono hb1.size)
  clear hap hnw hq hb1 HAP HBA HF
  have b2 : Below w2.heap.size w2 (w2.alloc (.cells #[.slice a1 n1 c1, .int .i64 0, .slice fa1 m fc1, .bool false] 29)) := (Below.refl _ w2).alloc (Nat.le_refl _) _
  have zd := Blk.new w2 29 #[.slice a1 n1 c1, .int .i64 0, .slice fa1 m fc1, .bool false]
  obtain ⟨W2, hW2⟩ : ∃ W, w2.alloc (.cells #[.slice a1 n1 c1, .int .i64 0, .slice fa1 m fc1, .bool false] 29) = W := ⟨_, rfl⟩
  rw [hW2] at b2 zd ⊢
  clear hW2
  have hXl := z0.lt
  have hX0 := hb2.size
  obtain ⟨X, hX⟩ : ∃ X, w2.heap.size = X := ⟨_, rfl⟩
  rw [hX] at zd hX0
  try rw [hX]
  have b02 := hb2.trans (b2.mono hb2.size)
  have z2 := z0.keep b02
  have q2 := hnd.keep b2
  clear hb2 b2 hnd hX z0
  have hcall := devOkS a1 n1 c1 qs 0 fa1 m fc1 fs false W2 (q2.bs.cr hql (newD_tot x)) (OwnFa.fr q2.fs hfm)
  rw [q2.bs.D] at hcall
  refine hcall.mono ?_
  rintro e w3 ⟨rfl, b3⟩
  clear hcall
  have b03 := b02.trans (b3.mono b02.size)
  have zr := z2.keep b3
  have zx := zd.keep b3
  have q3 := q2.keep b3
  clear z2 zd q2 b02 b3
  have r0 := zr.cell 0
  have r1 := zr.cell 1
  have r2 := zr.cell 2
  have r3 := zr.cell 3
  have g0 := zr.frozen 0
  have g1 := zr.frozen 1
  have g2 := zr.frozen 2
  have g3 := zr.frozen 3
  simp at r0 r1 r2 r3
  have HBB : Hid (Below w.heap.size w w3) := HB.out.trans (b03.mono HB.out.size)
  cases hd : devB (newD x) 0 fs with
  | false =>
    have HD : Hid (devN x fs = ⟨[], 0, [], false⟩) := by show _ = _; unfold devN; rw [hd]; rfl
    have zf := (((zr.set 0 (.slice none 0 0)).set 1 (.int .i64 0)).set 2 (.slice none 0 0)).set 3 (.bool false)
    have d0 := zf.cell 0
    have d1 := zf.cell 1
    have d2 := zf.cell 2
    have d3 := zf.cell 3
    simp at d0 d1 d2 d3
    clear zr zf zx q3 b03 hd
    go_wp2
    refine bodyPost_ret (v := .agg #[.slice none 0 0, .int .i64 0, .slice none 0 0, .bool false]) (by simp [results, Try.f8, go_sem, d0, d1, d2, d3]) rfl ?_
    rw [← HGP.out, HD.out]
    have hH := HH.out
    have s : ∀ (W : World) (i : Nat) (v : Value), Below w.heap.size w W → Below w.heap.size w (W.setCell ⟨H, i, none⟩ v) := fun W i v hb => hb.setCell (p := ⟨H, i, none⟩) (by simp only; omega) v
    exact ⟨none, 0, 0, none, 0, 0, [], rfl, newDv_zero _ _, rfl, s _ _ _ (s _ _ _ (s _ _ _ (s _ _ _ HBB.out)))⟩
  | true =>
    have HD : Hid (devN x fs = ⟨newD x, 0, fs, false⟩) := by show _ = _; unfold devN; rw [hd]; rfl
    have zf := (((zr.set 0 (.slice a1 n1 c1)).set 1 (.int .i64 0)).set 2 (.slice fa1 m fc1)).set 3 (.bool false)
    have d0 := zf.cell 0
    have d1 := zf.cell 1
    have d2 := zf.cell 2
    have d3 := zf.cell 3
    have y0 := zx.cell 0
    have y1 := zx.cell 1
    have y2 := zx.cell 2
    have y3 := zx.cell 3
    simp at d0 d1 d2 d3 y0 y1 y2 y3
    have HN : Hid (NewDv w3 W0.heap.size a1 n1 c1 fa1 m fc1 (newD x) fs qs ∧ qs.length = n1 ∧ H < W0.heap.size) := ⟨q3, hql, hXl⟩
    clear zr zf zx q3 b03 hd hql
    go_wp2
    refine bodyPost_ret (v := .agg #[.slice a1 n1 c1, .int .i64 0, .slice fa1 m fc1, .bool false]) (by simp [results, Try.f8, go_sem, d0, d1, d2, d3]) rfl ?_
    rw [← HGP.out, HD.out]
    obtain ⟨hnd, hl, h1⟩ := HN.out
    have hH := HH.out
    have s : ∀ (W : World) (i : Nat) (v : Value), Below w.heap.size w W → Below w.heap.size w (W.setCell ⟨H, i, none⟩ v) := fun W i v hb => hb.setCell (p := ⟨H, i, none⟩) (by simp only; omega) v
    exact ⟨a1, n1, c1, fa1, m, fc1, qs, rfl, ((((hnd.set_below h1).set_below h1).set_below h1).set_below h1).wider HB.out.size, hl, s _ _ _ (s _ _ _ (s _ _ _ (s _ _ _ HBB.out)))⟩
end

section
open Go.RowKit
theorem RowB.keepB {w w' : World} {v : Value} {n : Nat} {zs : List Int} (h : RowB w v n zs) (hb : Below w.heap.size w w') : RowB w' v n zs := h.block fun g hg => hb.block g (h.at_ hg).1
theorem RowB.svs {w w' : World} {v : Value} {n : Nat} {zs : List Int} {F : List Nat} (h : RowB w v n zs) (k : Sv F w w') (hd : ∀ g, v.ownBlock = some g → g ∉ F) : RowB w' v n zs := h.block fun g hg => k.block g (h.at_ hg).1 (hd g hg)
theorem RowB.rdS {w : World} {a : Option Addr} {n c m : Nat} {zs : List Int} (h : RowB w (.slice a n c) m zs) : Rd w a zs := by
  obtain ⟨a', c', e, r⟩ := h.form
  simp only [Value.slice.injEq] at e
  rw [e.1]; exact r
end
end Go.Proofs.Ytmjifealomgcfaa
