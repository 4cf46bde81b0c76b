/-
  Joined: DvN, ChUq, DvS, DvSE.
-/
import Derived.Test.YtoeeblmnogeonaaGreatDoorJ17T
namespace Go.Proofs.YtoeeblmnogeonaaGreatDoor
section
open Go.RowKit
set_option maxRecDepth 100000 in
set_option maxHeartbeats 4000000 in
theorem devOkS (a : Option Addr) (n cap : Nat) (bs : List BkR) (ops : Int) (fa : Option Addr) (m fc : Nat) (fs : List FtD) (down : Bool) (w : World) (ht : CR w a n bs) (hf : FR w fa m fs) :
    Calls Tryz.prog 27 #[.agg #[.slice a n cap, .int .i64 ops, .slice fa m fc, .bool down]] w fun e w' => e = .returned (.bool (devB (bs.map BkR.D) ops fs)) ∧ Below w.heap.size w w' := by
  have B0 : Below w.heap.size w (w.alloc (.cells #[.slice a n cap, .int .i64 ops, .slice fa m fc, .bool down] 29)) := (Below.refl _ w).alloc (Nat.le_refl _) _
  have z0 := Blk.new w 29 #[.slice a n cap, .int .i64 ops, .slice fa m fc, .bool down]
  have hcall := chipOkS a n cap bs (w.alloc (.cells #[.slice a n cap, .int .i64 ops, .slice fa m fc, .bool down] 29)) (ht.keep B0)
  unfold devB
  have hc2 := fun W : World => l1In_any ops 0 100000 W
  have hc3 := fun (W : World) (h : FR W fa m fs) => l11Faults_any fa m fc fs W h
  generalize chipOkB (bs.map BkR.D) = p at hcall ⊢
  generalize (decide (0 ≤ ops) && decide (ops ≤ 100000)) = q at hc2 ⊢
  generalize faultsB fs = r at hc3 ⊢
  have HF : Hid _ := hf.keep B0
  have HB : Hid _ := B0
  clear ht hf B0
  go_enter Tryz.func27, Tryz.ntmps27
  go_wp2_with fail
  refine hcall.mono ?_
  rintro e w1 ⟨rfl, hb1⟩
  clear hcall
  have z1 := z0.keep hb1
  have B1 := HB.out.trans (hb1.mono HB.out.size)
  cases p
  · go_wp2
    go_ret
    exact ⟨rfl, B1⟩
  · have y1 := z1.cell 1
    have y2 := z1.cell 2
    simp at y1 y2
    have hc2 := hc2 w1
    have hc3 := hc3 w1 (HF.out.keep hb1)
    clear z0 z1 hb1
    go_wp2_with fail
    refine hc2.mono ?_
    rintro e w2 ⟨rfl, hw⟩
    obtain rfl := hw.symm
    clear hc2
    cases q
    · go_wp2
      go_ret
      exact ⟨rfl, B1⟩
    · go_wp2_with fail
      refine hc3.mono ?_
      rintro e w2 ⟨rfl, hb2⟩
      clear hc3 y1 y2
      go_wp2
      go_ret
      exact ⟨by simp, B1.trans (hb2.mono B1.size)⟩
/-- What DevNew answers. -/
noncomputable def devN (x : Int) (fs : List FtD) : DvD := if devB (newD x) 0 fs = true then ⟨newD x, 0, fs, false⟩ else ⟨[], 0, [], false⟩
theorem newD_tot (x : Int) : totB (newD x) ≤ 1048576 := by
  unfold newD
  split
  · have : totB (List.replicate x.toNat bkN) = x.toNat * 9 := by
      simp only [totB, List.map_replicate, List.sum_replicate_nat]
      rfl
    omega
  · simp [totB]
theorem NewBs.cr {w : World} {B n c : Nat} {a : Option Addr} {ds : List BkD} {qs : List BkR} (h : NewBs w B (.slice a n c) ds qs) (hl : qs.length = n) (ht : totB ds ≤ 1048576) : CR w a n qs := ⟨hl, by rw [h.D]; exact ht, h.rd⟩
theorem newDv_zero (w : World) (B : Nat) : NewDv w B none 0 0 none 0 0 [] [] [] :=
  ⟨⟨rfl, ⟨ownE_nil _ _ _, fun b hb => by simp at hb⟩, fun g hg => by simp [fpBs, Value.ownBlock] at hg, by simp [fpBs, Value.ownBlock]⟩, faults_nil w, fun g hg => by simp [Value.ownBlock] at hg⟩
set_option maxRecDepth 100000 in
set_option maxHeartbeats 4000000 in
theorem devNewS (x : Int) (fa : Option Addr) (m fc : Nat) (fs : List FtD) (w : World) (hf : FR w fa m fs) :
    Calls Tryz.prog 28 #[.int .i64 x, .slice fa m fc] w (DvA w (devN x fs)) := by
  have B0 : Below w.heap.size w (w.alloc (.cells #[.slice none 0 0, .int .i64 0, .slice none 0 0, .bool false] 29)) := (Below.refl _ w).alloc (Nat.le_refl _) _
  have z0 := Blk.new w 29 #[.slice none 0 0, .int .i64 0, .slice none 0 0, .bool false]
  have HF : Hid _ := hf.keep B0
  have hfm := hf.tot
  have HB : Hid _ := B0
  generalize hGP : DvA w (devN x fs) = P
  have HGP : Hid _ := hGP
  clear hf B0 hGP
  obtain ⟨H, hH⟩ : ∃ H, w.heap.size = H := ⟨_, rfl⟩
  have HH : Hid _ := hH
  rw [hH] at z0
  go_enter Tryz.func28, Tryz.ntmps28
  go_wp2_with fail
  obtain ⟨W0, hW0⟩ : ∃ W, w.alloc (.cells #[.slice none 0 0, .int .i64 0, .slice none 0 0, .bool false] 29) = W := ⟨_, rfl⟩
  rw [hW0] at HF HB z0 ⊢
  try rw [hH]
  clear hW0 hH
  refine (chipNewS x W0).mono ?_
  rintro e w1 ⟨a1, n1, c1, qs, rfl, hq, hql, hb1⟩
  have bA : Below w1.heap.size w1 (w1.alloc (.cells #[] 51)) := (Below.refl _ w1).alloc (Nat.le_refl _) _
  have happ := fun ty => app_faults (w1.alloc (.cells #[] 51)) (.slice (some ⟨w1.heap.size, 0, none⟩) 0 0) (faults_fresh w1) fa m fc fs ((HF.out.keep hb1).keep bA) ty
  have HAP : Hid _ := happ
  have HBA : Hid _ := bA
  clear happ bA
  go_wp2_with (at_builtin; refine wpList_appAny _ rfl (.tmp 8) (.tmp 9) 27 rfl (.slice (some ⟨w1.heap.size, 0, none⟩) 0 0) (.slice fa m fc) _ rfl rfl HAP.out ?_; intro v' w2 hap; obtain ⟨fa1, fc1, rfl⟩ := hap.form)
  have hnw := hap.new HBA.out (fun g hg => by simp [Value.ownBlock] at hg; omega)
  have hnd := dv_ab hq hb1 hap.own hnw.1 hnw.2
  have hb2 := hb1.trans (hnw.2.mono hb1.size)
  clear hap hnw hq hb1 HAP HBA HF
  have b2 : Below w2.heap.size w2 (w2.alloc (.cells #[.slice a1 n1 c1, .int .i64 0, .slice fa1 m fc1, .bool false] 29)) := (Below.refl _ w2).alloc (Nat.le_refl _) _
  have zd := Blk.new w2 29 #[.slice a1 n1 c1, .int .i64 0, .slice fa1 m fc1, .bool false]
  obtain ⟨W2, hW2⟩ : ∃ W, w2.alloc (.cells #[.slice a1 n1 c1, .int .i64 0, .slice fa1 m fc1, .bool false] 29) = W := ⟨_, rfl⟩
  rw [hW2] at b2 zd ⊢
  clear hW2
  have hXl := z0.lt
  have hX0 := hb2.size
  obtain ⟨X, hX⟩ : ∃ X, w2.heap.size = X := ⟨_, rfl⟩
  rw [hX] at zd hX0
  try rw [hX]
  have b02 := hb2.trans (b2.mono hb2.size)
  have z2 := z0.keep b02
  have q2 := hnd.keep b2
  clear hb2 b2 hnd hX z0
  have hcall := devOkS a1 n1 c1 qs 0 fa1 m fc1 fs false W2 (q2.bs.cr hql (newD_tot x)) (OwnFa.fr q2.fs hfm)
  rw [q2.bs.D] at hcall
  refine hcall.mono ?_
  rintro e w3 ⟨rfl, b3⟩
  clear hcall
  have b03 := b02.trans (b3.mono b02.size)
  have zr := z2.keep b3
  have zx := zd.keep b3
  have q3 := q2.keep b3
  clear z2 zd q2 b02 b3
  have r0 := zr.cell 0
  have r1 := zr.cell 1
  have r2 := zr.cell 2
  have r3 := zr.cell 3
  have g0 := zr.frozen 0
  have g1 := zr.frozen 1
  have g2 := zr.frozen 2
  have g3 := zr.frozen 3
  simp at r0 r1 r2 r3
  have HBB : Hid (Below w.heap.size w w3) := HB.out.trans (b03.mono HB.out.size)
  cases hd : devB (newD x) 0 fs with
  | false =>
    have HD : Hid (devN x fs = ⟨[], 0, [], false⟩) := by show _ = _; unfold devN; rw [hd]; rfl
    have zf := (((zr.set 0 (.slice none 0 0)).set 1 (.int .i64 0)).set 2 (.slice none 0 0)).set 3 (.bool false)
    have d0 := zf.cell 0
    have d1 := zf.cell 1
    have d2 := zf.cell 2
    have d3 := zf.cell 3
    simp at d0 d1 d2 d3
    clear zr zf zx q3 b03 hd
    go_wp2
    refine bodyPost_ret (v := .agg #[.slice none 0 0, .int .i64 0, .slice none 0 0, .bool false]) (by simp [results, Tryz.f28, go_sem, d0, d1, d2, d3]) rfl ?_
    rw [← HGP.out, HD.out]
    have hH := HH.out
    have s : ∀ (W : World) (i : Nat) (v : Value), Below w.heap.size w W → Below w.heap.size w (W.setCell ⟨H, i, none⟩ v) := fun W i v hb => hb.setCell (p := ⟨H, i, none⟩) (by simp only; omega) v
    exact ⟨none, 0, 0, none, 0, 0, [], rfl, newDv_zero _ _, rfl, s _ _ _ (s _ _ _ (s _ _ _ (s _ _ _ HBB.out)))⟩
  | true =>
    have HD : Hid (devN x fs = ⟨newD x, 0, fs, false⟩) := by show _ = _; unfold devN; rw [hd]; rfl
    have zf := (((zr.set 0 (.slice a1 n1 c1)).set 1 (.int .i64 0)).set 2 (.slice fa1 m fc1)).set 3 (.bool false)
    have d0 := zf.cell 0
    have d1 := zf.cell 1
    have d2 := zf.cell 2
    have d3 := zf.cell 3
    have y0 := zx.cell 0
    have y1 := zx.cell 1
    have y2 := zx.cell 2
    have y3 := zx.cell 3
    simp at d0 d1 d2 d3 y0 y1 y2 y3
    have HN : Hid (NewDv w3 W0.heap.size a1 n1 c1 fa1 m fc1 (newD x) fs qs ∧ qs.length = n1 ∧ H < W0.heap.size) := ⟨q3, hql, hXl⟩
    clear zr zf zx q3 b03 hd hql
    go_wp2
    refine bodyPost_ret (v := .agg #[.slice a1 n1 c1, .int .i64 0, .slice fa1 m fc1, .bool false]) (by simp [results, Tryz.f28, go_sem, d0, d1, d2, d3]) rfl ?_
    rw [← HGP.out, HD.out]
    obtain ⟨hnd, hl, h1⟩ := HN.out
    have hH := HH.out
    have s : ∀ (W : World) (i : Nat) (v : Value), Below w.heap.size w W → Below w.heap.size w (W.setCell ⟨H, i, none⟩ v) := fun W i v hb => hb.setCell (p := ⟨H, i, none⟩) (by simp only; omega) v
    exact ⟨a1, n1, c1, fa1, m, fc1, qs, rfl, ((((hnd.set_below h1).set_below h1).set_below h1).set_below h1).wider HB.out.size, hl, s _ _ _ (s _ _ _ (s _ _ _ (s _ _ _ HBB.out)))⟩
end

section
open Go.RowKit
theorem NewBs.page {W W1 : World} {B g n c k m nq P : Nat} {qa : Option Addr} {qc : Nat} {zs : List Int} {ds : List BkD} {bs : List BkR} {b : BkR} (h : NewBs W B (.slice (some ⟨g, 0, none⟩) n c) ds bs) (hn : bs.length = n) (hb : bs[k]? = some b) (hba : b.a = some ⟨P, 0, none⟩) (hm : m < b.ps.length) (b1 : Below W.heap.size W W1) (hz : zs.length = nq)
    (hq : RowB W1 (.slice qa nq qc) nq zs) (hqc : nq ≤ qc) (hqn : ∀ j, (Value.slice qa nq qc).ownBlock = some j → W.heap.size ≤ j) :
    NewBs ((W1.setCell ⟨P, m * 2, none⟩ (.bool true)).setCell ⟨P, m * 2 + 1, none⟩ (.slice qa nq qc)) B (.slice (some ⟨g, 0, none⟩) n c) (ds.set k ⟨(b.ps.map PgR.D).set m ⟨true, zs⟩, b.wear, b.bad⟩) (bs.set k ⟨b.a, b.cap, b.ps.set m ⟨true, qa, qc, zs⟩, b.wear, b.bad⟩) := by
  subst hz
  have hr := h.row
  have hgl : g < W.heap.size := h.own.lt g (fpBs_row rfl)
  have hbm : b ∈ bs := List.mem_of_getElem? hb
  obtain ⟨p, hp⟩ : ∃ p, b.ps[m]? = some p := ⟨_, List.getElem?_eq_getElem hm⟩
  have hOP : OwnPs W b.v b.ps := h.own.2 b hbm
  have hbv : b.v = .slice (some ⟨P, 0, none⟩) b.ps.length b.cap := by unfold BkR.v; rw [hba]
  have hnd : (fpPs b.v b.ps).Nodup := flat_nodup' (f := bkK.fp) h.inn.nd hbm
  have hPf : P ∈ fpPs b.v b.ps := fpPs_row (by rw [hbv]; rfl)
  have hPn : P ∉ pgK.fps b.ps := fun hf => (List.nodup_append.1 hnd).2.2 P (by rw [hbv]; simp [Value.ownBlock]) P hf rfl
  have hPl : P < W.heap.size := hOP.lt P hPf
  have hPg : g ≠ P := fun e => hr.1 (List.mem_flatMap.2 ⟨b, hbm, by rw [e]; exact hPf⟩)
  have hset : ∀ j, j ≠ P → ((W1.setCell ⟨P, m * 2, none⟩ (.bool true)).setCell ⟨P, m * 2 + 1, none⟩ (.slice qa zs.length qc)).heap[j]? = W1.heap[j]? := fun j hj => (Below.heap_setCell _ _ _ _ hj).trans (Below.heap_setCell _ _ _ _ hj)
  have hrow1 : OwnE pgE 92 W1 (.slice (some ⟨P, 0, none⟩) b.ps.length b.cap) b.ps.length b.ps := by have := hOP.1.keep b1; rw [hbv] at this; exact this
  have s1 := hrow1.set m 0 p ⟨true, p.a, p.cap, p.zs⟩ (.bool true) hp (by decide) rfl
  have s2 := s1.set m 1 ⟨true, p.a, p.cap, p.zs⟩ ⟨true, qa, qc, zs⟩ (.slice qa zs.length qc) (get_set hp) (by decide) rfl
  rw [List.set_set] at s2
  generalize hW2 : (W1.setCell ⟨P, m * 2, none⟩ (.bool true)).setCell ⟨P, m * 2 + 1, none⟩ (.slice qa zs.length qc) = W2 at hset
  have s3 : OwnE pgE 92 W2 (.slice (some ⟨P, 0, none⟩) b.ps.length b.cap) b.ps.length (b.ps.set m ⟨true, qa, qc, zs⟩) := by rw [← hW2]; exact s2
  have hI : Inn pgK W 0 (b.ps.map PgR.D) b.ps := ⟨rfl, hOP.2, fun _ _ => Nat.zero_le _, (List.nodup_append.1 hnd).2.1⟩
  have hqf : ∀ j ∈ pgK.fp (⟨true, qa, qc, zs⟩ : PgR), W.heap.size ≤ j := fun j hj => hqn j (by simpa [pgK, PgR.v] using hj)
  have hI2 := hI.put (w' := W2) (S := W.heap.size) (q := (⟨true, qa, qc, zs⟩ : PgR)) hp (fun j hj => hI.lt j hj) (Nat.zero_le _)
    (show PgR.own W2 (⟨true, qa, qc, zs⟩ : PgR) from ⟨hq.block fun j hj => hset j (fun e => by subst e; have := hqn j hj; omega), hqc⟩)
    (fun j hj => .inr (hqf j hj)) (show ((Value.slice qa zs.length qc).ownBlock.toList).Nodup by cases (Value.slice qa zs.length qc).ownBlock <;> simp)
    (fun j hj _ => by rw [hset j (fun e => by subst e; exact hPn hj)]; exact b1.block j (hI.lt j hj))
  have hbv2 : BkR.v ⟨b.a, b.cap, b.ps.set m ⟨true, qa, qc, zs⟩, b.wear, b.bad⟩ = .slice (some ⟨P, 0, none⟩) b.ps.length b.cap := by unfold BkR.v; rw [hba, List.length_set]
  have hfb : ∀ j ∈ bkK.fp (⟨b.a, b.cap, b.ps.set m ⟨true, qa, qc, zs⟩, b.wear, b.bad⟩ : BkR), j ∈ bkK.fp b ∨ W.heap.size ≤ j := fun j hj => by
    have hj' : j ∈ fpPs (.slice (some ⟨P, 0, none⟩) b.ps.length b.cap) (b.ps.set m ⟨true, qa, qc, zs⟩) := by rw [← hbv2]; exact hj
    rcases List.mem_append.1 hj' with h1 | h1
    · have : j = P := by simpa [Value.ownBlock] using h1
      subst this
      exact .inl hPf
    · obtain ⟨y, hy, hyf⟩ := List.mem_flatMap.1 h1
      rcases mem_set hy with rfl | ⟨i, _, hyi⟩
      · exact .inr (hqf j hyf)
      · exact .inl (List.mem_append_right _ (List.mem_flatMap.2 ⟨y, List.mem_of_getElem? hyi, hyf⟩))
  have hP2 : P ∉ pgK.fps (b.ps.set m ⟨true, qa, qc, zs⟩) := fun hf => by
    obtain ⟨y, hy, hyf⟩ := List.mem_flatMap.1 hf
    rcases mem_set hy with rfl | ⟨i, _, hyi⟩
    · have := hqf P hyf; omega
    · exact hPn (List.mem_flatMap.2 ⟨y, List.mem_of_getElem? hyi, hyf⟩)
  have hB0 : B ≤ W.heap.size := Nat.le_trans hr.2 (by omega)
  have hin := h.inn.put (w' := W2) (S := W.heap.size) (q := (⟨b.a, b.cap, b.ps.set m ⟨true, qa, qc, zs⟩, b.wear, b.bad⟩ : BkR)) hb (fun j hj => h.inn.lt j hj) hB0
    (by
      show OwnPs W2 (BkR.v ⟨b.a, b.cap, b.ps.set m ⟨true, qa, qc, zs⟩, b.wear, b.bad⟩) (b.ps.set m ⟨true, qa, qc, zs⟩)
      rw [hbv2]
      exact ⟨by rw [List.length_set]; exact s3, hI2.own⟩)
    hfb
    (by
      show (fpPs (BkR.v ⟨b.a, b.cap, b.ps.set m ⟨true, qa, qc, zs⟩, b.wear, b.bad⟩) (b.ps.set m ⟨true, qa, qc, zs⟩)).Nodup
      rw [hbv2]
      refine List.nodup_append.2 ⟨by simp [Value.ownBlock], hI2.nd, fun a ha c hc e => ?_⟩
      subst e
      have : a = P := by simpa [Value.ownBlock] using ha
      subst this
      exact hP2 hc)
    (fun j hj hnj => by rw [hset j (fun e => by subst e; exact hnj hPf)]; exact b1.block j (h.inn.lt j hj))
  have hD : bkK.D (⟨b.a, b.cap, b.ps.set m ⟨true, qa, qc, zs⟩, b.wear, b.bad⟩ : BkR) = ⟨(b.ps.map PgR.D).set m ⟨true, zs⟩, b.wear, b.bad⟩ := by
    show BkD.mk ((b.ps.set m ⟨true, qa, qc, zs⟩).map PgR.D) b.wear b.bad = _
    rw [List.map_set]
    rfl
  rw [hD] at hin
  refine hin.newBs ?_ (Nat.le_refl _) (fun j hj => ?_)
  · rw [List.length_set, hn]
    have h1 : OwnE bkE 42 W2 (.slice (some ⟨g, 0, none⟩) n c) n bs := by
      have := (h.own.1.keep b1)
      rw [hn] at this
      exact this.block fun j hj => by
        simp [Value.ownBlock] at hj
        subst hj
        exact hset _ hPg
    have h2 := bkE.xv_set bs k 0 b ⟨b.a, b.cap, b.ps.set m ⟨true, qa, qc, zs⟩, b.wear, b.bad⟩ (.slice b.a b.ps.length b.cap) hb (by decide) (by
      show [Value.slice b.a (b.ps.set m ⟨true, qa, qc, zs⟩).length b.cap, Value.int .i64 b.wear, Value.bool b.bad] = _
      rw [List.length_set]
      rfl)
    rw [set_same (bkE.xv_at bs k 0 b hb (by decide))] at h2
    unfold OwnE at h1 ⊢
    rw [← h2]
    exact h1
  · simp [Value.ownBlock] at hj
    subst hj
    refine ⟨hr.2, fun hf => ?_⟩
    obtain ⟨x, hx, hxf⟩ := List.mem_flatMap.1 hf
    rcases mem_set hx with rfl | ⟨j, _, hxj⟩
    · rcases hfb g hxf with h1 | h1
      · exact hr.1 (List.mem_flatMap.2 ⟨b, hbm, h1⟩)
      · omega
    · exact hr.1 (List.mem_flatMap.2 ⟨x, List.mem_of_getElem? hxj, hxf⟩)
end

section
open Go.RowKit
theorem evCode_ok (ds : List BkD) (ops : Int) (fs : List FtD) (down : Bool) (f : Bool → Int) : evCode ds ops fs down (f (chipOkB ds)) = evCode ds ops fs down (f true) := by
  unfold evCode
  by_cases h : devB ds ops fs = false
  · rw [if_pos h, if_pos h]
  · rw [if_neg h, if_neg h]
    have : chipOkB ds = true := by
      unfold devB at h
      cases hc : chipOkB ds with
      | true => rfl
      | false => rw [hc] at h; simp at h
    rw [this]
set_option maxRecDepth 100000 in
set_option maxHeartbeats 4000000 in
theorem l11MayS (a : Option Addr) (n cap : Nat) (bs : List BkR) (ops : Int) (fa : Option Addr) (m fc : Nat) (fs : List FtD) (down : Bool) (c : Int) (w : World) (ht : CR w a n bs) (hf : FR w fa m fs) :
    Calls Tryz.prog 52 #[.agg #[.slice a n cap, .int .i64 ops, .slice fa m fc, .bool down], .int .i64 c] w fun e w' => e = .returned (.int .i64 (evCode (bs.map BkR.D) ops fs down c)) ∧ Below w.heap.size w w' := by
  have B0 : Below w.heap.size w (w.alloc (.cells #[.slice a n cap, .int .i64 ops, .slice fa m fc, .bool down] 29)) := (Below.refl _ w).alloc (Nat.le_refl _) _
  have z0 := Blk.new w 29 #[.slice a n cap, .int .i64 ops, .slice fa m fc, .bool down]
  have hcall := devOkS a n cap bs ops fa m fc fs down (w.alloc (.cells #[.slice a n cap, .int .i64 ops, .slice fa m fc, .bool down] 29)) (ht.keep B0) (hf.keep B0)
  unfold evCode
  generalize devB (bs.map BkR.D) ops fs = p at hcall ⊢
  have HB : Hid _ := B0
  clear ht hf B0
  cases p
  · rw [if_pos rfl]
    go_enter Tryz.func52, Tryz.ntmps52
    go_wp2_with fail
    refine hcall.mono ?_
    rintro e w1 ⟨rfl, hb1⟩
    clear hcall
    go_wp2
    go_ret
    exact ⟨rfl, HB.out.trans (hb1.mono HB.out.size)⟩
  · rw [if_neg (by simp)]
    by_cases hoff : down = true ∨ 100000 ≤ ops
    · rw [if_pos hoff]
      go_enter Tryz.func52, Tryz.ntmps52
      go_wp2_with fail
      refine hcall.mono ?_
      rintro e w1 ⟨rfl, hb1⟩
      clear hcall
      have y1 := (z0.keep hb1).cell 1
      have y3 := (z0.keep hb1).cell 3
      simp at y1 y3
      have B1 := HB.out.trans (hb1.mono HB.out.size)
      clear z0 hb1
      cases down with
      | true =>
        go_wp2
        go_ret
        exact ⟨rfl, B1⟩
      | false =>
        have h1 : 100000 ≤ ops := by simpa using hoff
        go_wp2
        go_ret
        exact ⟨rfl, B1⟩
    · rw [if_neg hoff]
      have hdn : down = false := by cases down; rfl; exact absurd (.inl rfl) hoff
      subst hdn
      have h1 : ¬ 100000 ≤ ops := fun h => hoff (.inr h)
      go_enter Tryz.func52, Tryz.ntmps52
      go_wp2_with fail
      refine hcall.mono ?_
      rintro e w1 ⟨rfl, hb1⟩
      clear hcall
      have y1 := (z0.keep hb1).cell 1
      have y3 := (z0.keep hb1).cell 3
      simp at y1 y3
      have B1 := HB.out.trans (hb1.mono HB.out.size)
      clear z0 hb1
      go_wp2
      go_ret
      exact ⟨rfl, B1⟩
/-- What a changed block takes. -/
theorem fp_put {v : Value} {qs : List BkR} {k S : Nat} {q q' : BkR} (hk : qs[k]? = some q) (h : ∀ g ∈ fpPs q'.v q'.ps, g ∈ fpPs q.v q.ps ∨ S ≤ g) : ∀ g ∈ fpBs v (qs.set k q'), g ∈ fpBs v qs ∨ S ≤ g := fun g hg => by
  rcases List.mem_append.1 hg with h1 | h1
  · exact .inl (List.mem_append_left _ h1)
  · obtain ⟨y, hy, hyf⟩ := List.mem_flatMap.1 h1
    rcases mem_set hy with rfl | ⟨i, _, hyi⟩
    · rcases h g hyf with h2 | h2
      · exact .inl (fpBs_bk (List.mem_of_getElem? hk) h2)
      · exact .inr h2
    · exact .inl (fpBs_bk (List.mem_of_getElem? hyi) hyf)
/-- The block k turned bad. -/
theorem NewBs.bad {W : World} {B g n c k : Nat} {ds : List BkD} {bs : List BkR} {b : BkR} (h : NewBs W B (.slice (some ⟨g, 0, none⟩) n c) ds bs) (hn : bs.length = n) (hb : bs[k]? = some b) (y : Bool) :
    NewBs (W.setCell ⟨g, k * 3 + 2, none⟩ (.bool y)) B (.slice (some ⟨g, 0, none⟩) n c) (ds.set k ⟨b.ps.map PgR.D, b.wear, y⟩) (bs.set k ⟨b.a, b.cap, b.ps, b.wear, y⟩) := by
  have hr := h.row
  have hset : ∀ j, j ≠ g → (W.setCell ⟨g, k * 3 + 2, none⟩ (.bool y)).heap[j]? = W.heap[j]? := fun j hj => Below.heap_setCell _ _ _ _ hj
  have hown : OwnE bkE 42 W (.slice (some ⟨g, 0, none⟩) n c) n bs := by have := h.own.1; rw [hn] at this; exact this
  have s := hown.set k 2 b ⟨b.a, b.cap, b.ps, b.wear, y⟩ (.bool y) hb (by decide) rfl
  have hfx : ∀ j ∈ bkK.fps bs, j ≠ g := fun j hj e => by subst e; exact hr.1 hj
  have hbm : b ∈ bs := List.mem_of_getElem? hb
  have hin := h.inn.put (w' := W.setCell ⟨g, k * 3 + 2, none⟩ (.bool y)) (S := W.heap.size) (q := (⟨b.a, b.cap, b.ps, b.wear, y⟩ : BkR)) hb (fun j hj => h.inn.lt j hj) (by have := h.own.lt g (fpBs_row rfl); have := hr.2; omega) (by
      show OwnPs _ b.v b.ps
      exact (h.own.2 b hbm).block fun j hj => hset j (hfx j (List.mem_flatMap.2 ⟨b, hbm, hj⟩))) (fun j hj => .inl hj) (show (fpPs b.v b.ps).Nodup from flat_nodup' (f := bkK.fp) h.inn.nd hbm) (fun j hj _ => hset j (hfx j hj))
  refine hin.newBs (by rw [List.length_set, hn]; exact s) (Nat.le_refl _) (fun j hj => ?_)
  simp [Value.ownBlock] at hj
  subst hj
  refine ⟨hr.2, fun hf => ?_⟩
  obtain ⟨x, hx, hxf⟩ := List.mem_flatMap.1 hf
  rcases mem_set hx with rfl | ⟨j, hj, hxj⟩
  · exact hr.1 (List.mem_flatMap.2 ⟨b, hbm, hxf⟩)
  · exact hr.1 (List.mem_flatMap.2 ⟨x, List.mem_of_getElem? hxj, hxf⟩)
/-- Of a new device. -/
theorem NewDv.bad {W : World} {B g n c k m fc : Nat} {fa : Option Addr} {ds : List BkD} {fs : List FtD} {bs : List BkR} {b : BkR} (h : NewDv W B (some ⟨g, 0, none⟩) n c fa m fc ds fs bs) (hn : bs.length = n) (hb : bs[k]? = some b) :
    NewDv (W.setCell ⟨g, k * 3 + 2, none⟩ (.bool true)) B (some ⟨g, 0, none⟩) n c fa m fc (ds.set k ⟨b.ps.map PgR.D, b.wear, true⟩) fs (bs.set k ⟨b.a, b.cap, b.ps, b.wear, true⟩) := by
  refine ⟨h.bs.bad hn hb true, OwnE.block h.fs fun j hj => Below.heap_setCell _ _ _ _ (fun e => ?_), fun j hj => ⟨(h.new j hj).1, fun hf => ?_⟩⟩
  · have e' : j = g := e
    subst e'
    exact (h.new j hj).2 (fpBs_row rfl)
  · rcases fp_put (S := j + 1) (q' := ⟨b.a, b.cap, b.ps, b.wear, true⟩) hb (fun g hg => .inl hg) j hf with h1 | h1
    · exact (h.new j hj).2 h1
    · omega
/-- Another chip in its place. -/
theorem NewDv.chip {W W' : World} {B n c m fc n' c' : Nat} {a fa a' : Option Addr} {ds ds' : List BkD} {fs : List FtD} {bs bs' : List BkR} (h : NewDv W B a n c fa m fc ds fs bs) (hb : Below W.heap.size W W') (hc : NewBs W' W.heap.size (.slice a' n' c') ds' bs') (hB : B ≤ W.heap.size) : NewDv W' B a' n' c' fa m fc ds' fs bs' :=
  ⟨hc.wider hB, OwnE.keep h.fs hb, fun g hg => ⟨(h.new g hg).1, fun hf => by have := hc.new g hf; have := OwnE.lt h.fs hg; omega⟩⟩
/-- A page of its block k written, with bytes that are new. -/
theorem NewDv.page {W W1 : World} {B g n c k q nq P m fc : Nat} {fa qa : Option Addr} {qc : Nat} {zs : List Int} {ds : List BkD} {fs : List FtD} {bs : List BkR} {b : BkR} (h : NewDv W B (some ⟨g, 0, none⟩) n c fa m fc ds fs bs) (hn : bs.length = n) (hb : bs[k]? = some b) (hba : b.a = some ⟨P, 0, none⟩) (hq : q < b.ps.length) (b1 : Below W.heap.size W W1) (hz : zs.length = nq)
    (hr : RowB W1 (.slice qa nq qc) nq zs) (hqc : nq ≤ qc) (hqn : ∀ j, (Value.slice qa nq qc).ownBlock = some j → W.heap.size ≤ j) :
    NewDv ((W1.setCell ⟨P, q * 2, none⟩ (.bool true)).setCell ⟨P, q * 2 + 1, none⟩ (.slice qa nq qc)) B (some ⟨g, 0, none⟩) n c fa m fc (ds.set k ⟨(b.ps.map PgR.D).set q ⟨true, zs⟩, b.wear, b.bad⟩) fs (bs.set k ⟨b.a, b.cap, b.ps.set q ⟨true, qa, qc, zs⟩, b.wear, b.bad⟩) := by
  have hbv : b.v = .slice (some ⟨P, 0, none⟩) b.ps.length b.cap := by unfold BkR.v; rw [hba]
  have hPf : P ∈ fpBs (.slice (some ⟨g, 0, none⟩) n c) bs := fpBs_bk (List.mem_of_getElem? hb) (fpPs_row (by rw [hbv]; rfl))
  have hjP : ∀ j, (Value.slice fa m fc).ownBlock = some j → j ≠ P := fun j hj e => by subst e; exact (h.new j hj).2 hPf
  refine ⟨h.bs.page hn hb hba hq b1 hz hr hqc hqn, OwnE.block h.fs fun j hj => ?_, fun j hj => ⟨(h.new j hj).1, fun hf => ?_⟩⟩
  · exact ((Below.heap_setCell _ _ _ _ (hjP j hj)).trans (Below.heap_setCell _ _ _ _ (hjP j hj))).trans (b1.block j (OwnE.lt h.fs hj))
  · have hfb : ∀ x ∈ fpPs (BkR.v ⟨b.a, b.cap, b.ps.set q ⟨true, qa, qc, zs⟩, b.wear, b.bad⟩) (b.ps.set q ⟨true, qa, qc, zs⟩), x ∈ fpPs b.v b.ps ∨ W.heap.size ≤ x := fun x hx => by
      rcases List.mem_append.1 hx with h1 | h1
      · refine .inl (List.mem_append_left _ ?_)
        have : BkR.v ⟨b.a, b.cap, b.ps.set q ⟨true, qa, qc, zs⟩, b.wear, b.bad⟩ = b.v := by unfold BkR.v; rw [List.length_set]
        rw [this] at h1
        exact h1
      · obtain ⟨y, hy, hyf⟩ := List.mem_flatMap.1 h1
        rcases mem_set hy with rfl | ⟨i, _, hyi⟩
        · refine .inr (hqn x ?_)
          subst hz
          simpa [PgR.v] using hyf
        · exact .inl (List.mem_append_right _ (List.mem_flatMap.2 ⟨y, List.mem_of_getElem? hyi, hyf⟩))
    rcases fp_put (S := W.heap.size) (q' := ⟨b.a, b.cap, b.ps.set q ⟨true, qa, qc, zs⟩, b.wear, b.bad⟩) hb hfb j hf with h1 | h1
    · exact (h.new j hj).2 h1
    · have := OwnE.lt h.fs hj; omega
end

section
open Go.RowKit
theorem evCode_zero {ds : List BkD} {ops : Int} {fs : List FtD} {down : Bool} {c : Int} (h : evCode ds ops fs down c = 0) : devB ds ops fs = true ∧ down = false ∧ ops < 100000 ∧ c = 0 := by
  unfold evCode at h
  split at h
  · omega
  · rename_i h1
    split at h
    · omega
    · rename_i h2
      refine ⟨by simpa using h1, ?_, ?_, h⟩
      · cases down
        · rfl
        · exact absurd (.inl rfl) h2
      · exact Int.not_le.1 fun h3 => h2 (.inr h3)
theorem devB_ops {ds : List BkD} {ops : Int} {fs : List FtD} (h : devB ds ops fs = true) : chipOkB ds = true ∧ 0 ≤ ops ∧ ∀ t ∈ fs, ftOk t = true := by
  unfold devB at h
  simp only [Bool.and_eq_true, decide_eq_true_eq] at h
  refine ⟨h.1.1, h.1.2.1, ?_⟩
  have h2 := h.2
  rw [faultsB_asc] at h2
  simp only [Bool.and_eq_true] at h2
  exact List.all_eq_true.1 h2.2.1
end
end Go.Proofs.YtoeeblmnogeonaaGreatDoor
