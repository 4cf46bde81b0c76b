/-
  Joined: DvS, DvSE, FnExactDevEraseW.
-/
import Derived.Test.YtkhgafmhbibikaaGreatDoorJ22Y
import Derived.Test.YtkhgafmhbibikaaGreatDoorJ23Y
namespace Go.Proofs.YtkhgafmhbibikaaGreatDoor
section
open Go.RowKit
theorem evCode_ok (ds : List BkD) (ops : Int) (fs : List FtD) (down : Bool) (f : Bool → Int) : evCode ds ops fs down (f (chipOkB ds)) = evCode ds ops fs down (f true) := by
  unfold evCode
  by_cases h : devB ds ops fs = false
  · rw [if_pos h, if_pos h]
  · rw [if_neg h, if_neg h]
    have : chipOkB ds = true := by
      unfold devB at h
      cases hc : chipOkB ds with
      | true => rfl
      | false => rw [hc] at h; simp at h
    rw [this]
set_option maxRecDepth 100000 in
set_option maxHeartbeats 4000000 in
theorem l11MayS (a : Option Addr) (n cap : Nat) (bs : List BkR) (ops : Int) (fa : Option Addr) (m fc : Nat) (fs : List FtD) (down : Bool) (c : Int) (w : World) (ht : CR w a n bs) (hf : FR w fa m fs) :
    Calls Tryz.prog 39 #[.agg #[.slice a n cap, .int .i64 ops, .slice fa m fc, .bool down], .int .i64 c] w fun e w' => e = .returned (.int .i64 (evCode (bs.map BkR.D) ops fs down c)) ∧ Below w.heap.size w w' := by
  have B0 : Below w.heap.size w (w.alloc (.cells #[.slice a n cap, .int .i64 ops, .slice fa m fc, .bool down] 35)) := (Below.refl _ w).alloc (Nat.le_refl _) _
  have z0 := Blk.new w 35 #[.slice a n cap, .int .i64 ops, .slice fa m fc, .bool down]
  have hcall := devOkS a n cap bs ops fa m fc fs down (w.alloc (.cells #[.slice a n cap, .int .i64 ops, .slice fa m fc, .bool down] 35)) (ht.keep B0) (hf.keep B0)
  unfold evCode
  generalize devB (bs.map BkR.D) ops fs = p at hcall ⊢
  have HB : Hid _ := B0
  clear ht hf B0
  cases p
  · rw [if_pos rfl]
    go_enter Tryz.func39, Tryz.ntmps39
    go_wp2_with fail
    refine hcall.mono ?_
    rintro e w1 ⟨rfl, hb1⟩
    clear hcall
    go_wp2
    go_ret
    exact ⟨rfl, HB.out.trans (hb1.mono HB.out.size)⟩
  · rw [if_neg (by simp)]
    by_cases hoff : down = true ∨ 100000 ≤ ops
    · rw [if_pos hoff]
      go_enter Tryz.func39, Tryz.ntmps39
      go_wp2_with fail
      refine hcall.mono ?_
      rintro e w1 ⟨rfl, hb1⟩
      clear hcall
      have y1 := (z0.keep hb1).cell 1
      have y3 := (z0.keep hb1).cell 3
      simp at y1 y3
      have B1 := HB.out.trans (hb1.mono HB.out.size)
      clear z0 hb1
      cases down with
      | true =>
        go_wp2
        go_ret
        exact ⟨rfl, B1⟩
      | false =>
        have h1 : 100000 ≤ ops := by simpa using hoff
        go_wp2
        go_ret
        exact ⟨rfl, B1⟩
    · rw [if_neg hoff]
      have hdn : down = false := by cases down; rfl; exact absurd (.inl rfl) hoff
      subst hdn
      have h1 : ¬ 100000 ≤ ops := fun h => hoff (.inr h)
      go_enter Tryz.func39, Tryz.ntmps39
      go_wp2_with fail
      refine hcall.mono ?_
      rintro e w1 ⟨rfl, hb1⟩
      clear hcall
      have y1 := (z0.keep hb1).cell 1
      have y3 := (z0.keep hb1).cell 3
      simp at y1 y3
      have B1 := HB.out.trans (hb1.mono HB.out.size)
      clear z0 hb1
      go_wp2
      go_ret
      exact ⟨rfl, B1⟩
/-- What a changed block takes. -/
theorem fp_put {v : Value} {qs : List BkR} {k S : Nat} {q q' : BkR} (hk : qs[k]? = some q) (h : ∀ g ∈ fpPs q'.v q'.ps, g ∈ fpPs q.v q.ps ∨ S ≤ g) : ∀ g ∈ fpBs v (qs.set k q'), g ∈ fpBs v qs ∨ S ≤ g := fun g hg => by
  rcases List.mem_append.1 hg with h1 | h1
  · exact .inl (List.mem_append_left _ h1)
  · obtain ⟨y, hy, hyf⟩ := List.mem_flatMap.1 h1
    rcases mem_set hy with rfl | ⟨i, _, hyi⟩
    · rcases h g hyf with h2 | h2
      · exact .inl (fpBs_bk (List.mem_of_getElem? hk) h2)
      · exact .inr h2
    · exact .inl (fpBs_bk (List.mem_of_getElem? hyi) hyf)
/-- The block k turned bad. -/
theorem NewBs.bad {W : World} {B g n c k : Nat} {ds : List BkD} {bs : List BkR} {b : BkR} (h : NewBs W B (.slice (some ⟨g, 0, none⟩) n c) ds bs) (hn : bs.length = n) (hb : bs[k]? = some b) (y : Bool) :
    NewBs (W.setCell ⟨g, k * 3 + 2, none⟩ (.bool y)) B (.slice (some ⟨g, 0, none⟩) n c) (ds.set k ⟨b.ps.map PgR.D, b.wear, y⟩) (bs.set k ⟨b.a, b.cap, b.ps, b.wear, y⟩) := by
  have hr := h.row
  have hset : ∀ j, j ≠ g → (W.setCell ⟨g, k * 3 + 2, none⟩ (.bool y)).heap[j]? = W.heap[j]? := fun j hj => Below.heap_setCell _ _ _ _ hj
  have hown : OwnE bkE 57 W (.slice (some ⟨g, 0, none⟩) n c) n bs := by have := h.own.1; rw [hn] at this; exact this
  have s := hown.set k 2 b ⟨b.a, b.cap, b.ps, b.wear, y⟩ (.bool y) hb (by decide) rfl
  have hfx : ∀ j ∈ bkK.fps bs, j ≠ g := fun j hj e => by subst e; exact hr.1 hj
  have hbm : b ∈ bs := List.mem_of_getElem? hb
  have hin := h.inn.put (w' := W.setCell ⟨g, k * 3 + 2, none⟩ (.bool y)) (S := W.heap.size) (q := (⟨b.a, b.cap, b.ps, b.wear, y⟩ : BkR)) hb (fun j hj => h.inn.lt j hj) (by have := h.own.lt g (fpBs_row rfl); have := hr.2; omega) (by
      show OwnPs _ b.v b.ps
      exact (h.own.2 b hbm).block fun j hj => hset j (hfx j (List.mem_flatMap.2 ⟨b, hbm, hj⟩))) (fun j hj => .inl hj) (show (fpPs b.v b.ps).Nodup from flat_nodup' (f := bkK.fp) h.inn.nd hbm) (fun j hj _ => hset j (hfx j hj))
  refine hin.newBs (by rw [List.length_set, hn]; exact s) (Nat.le_refl _) (fun j hj => ?_)
  simp [Value.ownBlock] at hj
  subst hj
  refine ⟨hr.2, fun hf => ?_⟩
  obtain ⟨x, hx, hxf⟩ := List.mem_flatMap.1 hf
  rcases mem_set hx with rfl | ⟨j, hj, hxj⟩
  · exact hr.1 (List.mem_flatMap.2 ⟨b, hbm, hxf⟩)
  · exact hr.1 (List.mem_flatMap.2 ⟨x, List.mem_of_getElem? hxj, hxf⟩)
/-- Of a new device. -/
theorem NewDv.bad {W : World} {B g n c k m fc : Nat} {fa : Option Addr} {ds : List BkD} {fs : List FtD} {bs : List BkR} {b : BkR} (h : NewDv W B (some ⟨g, 0, none⟩) n c fa m fc ds fs bs) (hn : bs.length = n) (hb : bs[k]? = some b) :
    NewDv (W.setCell ⟨g, k * 3 + 2, none⟩ (.bool true)) B (some ⟨g, 0, none⟩) n c fa m fc (ds.set k ⟨b.ps.map PgR.D, b.wear, true⟩) fs (bs.set k ⟨b.a, b.cap, b.ps, b.wear, true⟩) := by
  refine ⟨h.bs.bad hn hb true, OwnE.block h.fs fun j hj => Below.heap_setCell _ _ _ _ (fun e => ?_), fun j hj => ⟨(h.new j hj).1, fun hf => ?_⟩⟩
  · have e' : j = g := e
    subst e'
    exact (h.new j hj).2 (fpBs_row rfl)
  · rcases fp_put (S := j + 1) (q' := ⟨b.a, b.cap, b.ps, b.wear, true⟩) hb (fun g hg => .inl hg) j hf with h1 | h1
    · exact (h.new j hj).2 h1
    · omega
/-- Another chip in its place. -/
theorem NewDv.chip {W W' : World} {B n c m fc n' c' : Nat} {a fa a' : Option Addr} {ds ds' : List BkD} {fs : List FtD} {bs bs' : List BkR} (h : NewDv W B a n c fa m fc ds fs bs) (hb : Below W.heap.size W W') (hc : NewBs W' W.heap.size (.slice a' n' c') ds' bs') (hB : B ≤ W.heap.size) : NewDv W' B a' n' c' fa m fc ds' fs bs' :=
  ⟨hc.wider hB, OwnE.keep h.fs hb, fun g hg => ⟨(h.new g hg).1, fun hf => by have := hc.new g hf; have := OwnE.lt h.fs hg; omega⟩⟩
/-- What a block takes whose page was written with new bytes. -/
theorem fp_pg {W : World} {v : Value} {us : List BkR} {k j : Nat} {b : BkR} {wear : Int} {bad : Bool} {g : Nat} (hk : us[k]? = some b) (hg : g ∈ fpBs v (us.set k ⟨b.a, b.cap, b.ps.set j ⟨true, some ⟨W.heap.size, 0, none⟩, 0, []⟩, wear, bad⟩)) : g ∈ fpBs v us ∨ W.heap.size ≤ g := by
  refine fp_put (q' := ⟨b.a, b.cap, b.ps.set j ⟨true, some ⟨W.heap.size, 0, none⟩, 0, []⟩, wear, bad⟩) hk (fun x hx => ?_) g hg
  rcases List.mem_append.1 hx with h1 | h1
  · refine .inl (List.mem_append_left _ ?_)
    have : BkR.v ⟨b.a, b.cap, b.ps.set j ⟨true, some ⟨W.heap.size, 0, none⟩, 0, []⟩, wear, bad⟩ = b.v := by unfold BkR.v; rw [List.length_set]
    rw [this] at h1
    exact h1
  · obtain ⟨y, hy, hyf⟩ := List.mem_flatMap.1 h1
    rcases mem_set hy with rfl | ⟨i, _, hyi⟩
    · right
      simp [PgR.v, Value.ownBlock] at hyf
      omega
    · exact .inl (List.mem_append_right _ (List.mem_flatMap.2 ⟨y, List.mem_of_getElem? hyi, hyf⟩))
/-- A page of its block k written, with bytes that are new. -/
theorem NewDv.page {W W1 : World} {B g n c k q nq P m fc : Nat} {fa qa : Option Addr} {qc : Nat} {zs : List Int} {ds : List BkD} {fs : List FtD} {bs : List BkR} {b : BkR} (h : NewDv W B (some ⟨g, 0, none⟩) n c fa m fc ds fs bs) (hn : bs.length = n) (hb : bs[k]? = some b) (hba : b.a = some ⟨P, 0, none⟩) (hq : q < b.ps.length) (b1 : Below W.heap.size W W1) (hz : zs.length = nq)
    (hr : RowB W1 (.slice qa nq qc) nq zs) (hqn : ∀ j, (Value.slice qa nq qc).ownBlock = some j → W.heap.size ≤ j) :
    NewDv ((W1.setCell ⟨P, q * 2, none⟩ (.bool true)).setCell ⟨P, q * 2 + 1, none⟩ (.slice qa nq qc)) B (some ⟨g, 0, none⟩) n c fa m fc (ds.set k ⟨(b.ps.map PgR.D).set q ⟨true, zs⟩, b.wear, b.bad⟩) fs (bs.set k ⟨b.a, b.cap, b.ps.set q ⟨true, qa, qc, zs⟩, b.wear, b.bad⟩) := by
  have hbv : b.v = .slice (some ⟨P, 0, none⟩) b.ps.length b.cap := by unfold BkR.v; rw [hba]
  have hPf : P ∈ fpBs (.slice (some ⟨g, 0, none⟩) n c) bs := fpBs_bk (List.mem_of_getElem? hb) (fpPs_row (by rw [hbv]; rfl))
  have hjP : ∀ j, (Value.slice fa m fc).ownBlock = some j → j ≠ P := fun j hj e => by subst e; exact (h.new j hj).2 hPf
  refine ⟨h.bs.page hn hb hba hq b1 hz hr hqn, OwnE.block h.fs fun j hj => ?_, fun j hj => ⟨(h.new j hj).1, fun hf => ?_⟩⟩
  · exact ((Below.heap_setCell _ _ _ _ (hjP j hj)).trans (Below.heap_setCell _ _ _ _ (hjP j hj))).trans (b1.block j (OwnE.lt h.fs hj))
  · have hfb : ∀ x ∈ fpPs (BkR.v ⟨b.a, b.cap, b.ps.set q ⟨true, qa, qc, zs⟩, b.wear, b.bad⟩) (b.ps.set q ⟨true, qa, qc, zs⟩), x ∈ fpPs b.v b.ps ∨ W.heap.size ≤ x := fun x hx => by
      rcases List.mem_append.1 hx with h1 | h1
      · refine .inl (List.mem_append_left _ ?_)
        have : BkR.v ⟨b.a, b.cap, b.ps.set q ⟨true, qa, qc, zs⟩, b.wear, b.bad⟩ = b.v := by unfold BkR.v; rw [List.length_set]
        rw [this] at h1
        exact h1
      · obtain ⟨y, hy, hyf⟩ := List.mem_flatMap.1 h1
        rcases mem_set hy with rfl | ⟨i, _, hyi⟩
        · refine .inr (hqn x ?_)
          subst hz
          simpa [PgR.v] using hyf
        · exact .inl (List.mem_append_right _ (List.mem_flatMap.2 ⟨y, List.mem_of_getElem? hyi, hyf⟩))
    rcases fp_put (S := W.heap.size) (q' := ⟨b.a, b.cap, b.ps.set q ⟨true, qa, qc, zs⟩, b.wear, b.bad⟩) hb hfb j hf with h1 | h1
    · exact (h.new j hj).2 h1
    · have := OwnE.lt h.fs hj; omega
end

section
open Go.RowKit
theorem evCode_zero {ds : List BkD} {ops : Int} {fs : List FtD} {down : Bool} {c : Int} (h : evCode ds ops fs down c = 0) : devB ds ops fs = true ∧ down = false ∧ ops < 100000 ∧ c = 0 := by
  unfold evCode at h
  split at h
  · omega
  · rename_i h1
    split at h
    · omega
    · rename_i h2
      refine ⟨by simpa using h1, ?_, ?_, h⟩
      · cases down
        · rfl
        · exact absurd (.inl rfl) h2
      · exact Int.not_le.1 fun h3 => h2 (.inr h3)
theorem devB_ops {ds : List BkD} {ops : Int} {fs : List FtD} (h : devB ds ops fs = true) : chipOkB ds = true ∧ 0 ≤ ops ∧ ∀ t ∈ fs, ftOk t = true := by
  unfold devB at h
  simp only [Bool.and_eq_true, decide_eq_true_eq] at h
  refine ⟨h.1.1, h.1.2.1, ?_⟩
  have h2 := h.2
  rw [faultsB_asc] at h2
  simp only [Bool.and_eq_true] at h2
  exact List.all_eq_true.1 h2.2.1
theorem pagesT_succ {j : Nat} (_h : j < 8) : ((List.range 8).map fun i => (⟨decide (i < j), []⟩ : PgD)).set j ⟨true, []⟩ = (List.range 8).map fun i => (⟨decide (i < j + 1), []⟩ : PgD) := by
  have h := pgsT_succ _h
  have h2 := congrArg (List.map PgR.D) h
  rw [List.map_set, pgsT_D, pgsT_D] at h2
  exact h2
set_option maxRecDepth 100000 in
set_option maxHeartbeats 16000000 in
theorem devErS (a : Option Addr) (n cap : Nat) (bs : List BkR) (ops : Int) (fa : Option Addr) (m fc : Nat) (fs : List FtD) (down : Bool) (x : Int) (w : World) (ht : CR w a n bs) (hf : FR w fa m fs) :
    Calls Tryz.prog 18 #[.agg #[.slice a n cap, .int .i64 ops, .slice fa m fc, .bool down], .int .i64 x] w (DvCA w ⟨outDs (evCode (bs.map BkR.D) ops fs down (codeE true (bs.map BkR.D) x)) (faD ops fs) (bs.map BkR.D) (eraseAt (bs.map BkR.D) x.toNat) (badD (bs.map BkR.D) x.toNat) (tornD (bs.map BkR.D) x.toNat), outOps (evCode (bs.map BkR.D) ops fs down (codeE true (bs.map BkR.D) x)) ops, fs, outDown (evCode (bs.map BkR.D) ops fs down (codeE true (bs.map BkR.D) x)) (faD ops fs) down⟩ (outCode (evCode (bs.map BkR.D) ops fs down (codeE true (bs.map BkR.D) x)) (faD ops fs))) := by
  have hnn := ht.n
  have hmm := hf.tot
  have B0 : Below w.heap.size w ((w.alloc (.cells #[.slice a n cap, .int .i64 ops, .slice fa m fc, .bool down] 35)).alloc (.cells #[.slice none 0 0, .int .i64 0, .slice none 0 0, .bool false] 35)) := ((Below.refl _ w).alloc (Nat.le_refl _) _).alloc (by simp) _
  have z0 := (Blk.new w 35 #[.slice a n cap, .int .i64 ops, .slice fa m fc, .bool down]).alloc (.cells #[.slice none 0 0, .int .i64 0, .slice none 0 0, .bool false] 35)
  have z1 := Blk.new (w.alloc (.cells #[.slice a n cap, .int .i64 ops, .slice fa m fc, .bool down] 35)) 35 #[.slice none 0 0, .int .i64 0, .slice none 0 0, .bool false]
  simp only [World.size_alloc] at z1
  have hws : ((w.alloc (.cells #[.slice a n cap, .int .i64 ops, .slice fa m fc, .bool down] 35)).alloc (.cells #[.slice none 0 0, .int .i64 0, .slice none 0 0, .bool false] 35)).heap.size = w.heap.size + 2 := by simp
  obtain ⟨H, hH⟩ : ∃ H, w.heap.size = H := ⟨_, rfl⟩
  have HH : Hid (w.heap.size = H) := hH
  rw [hH] at z0 z1 hws
  obtain ⟨CD, hCD⟩ : ∃ c, evCode (bs.map BkR.D) ops fs down (codeE true (bs.map BkR.D) x) = c := ⟨_, rfl⟩
  rw [hCD]
  have HCD : Hid (evCode (bs.map BkR.D) ops fs down (codeE true (bs.map BkR.D) x) = CD) := hCD
  generalize hGP : DvCA w ⟨outDs CD (faD ops fs) (bs.map BkR.D) (eraseAt (bs.map BkR.D) x.toNat) (badD (bs.map BkR.D) x.toNat) (tornD (bs.map BkR.D) x.toNat), outOps CD ops, fs, outDown CD (faD ops fs) down⟩ (outCode CD (faD ops fs)) = P
  have HGP : Hid _ := hGP
  clear hGP hCD
  go_enter Tryz.func18, Tryz.ntmps18
  have x0 := z0.cell 0
  have x1 := z0.cell 1
  have x2 := z0.cell 2
  have x3 := z0.cell 3
  simp at x0 x1 x2 x3
  go_upto_region 1 with fail
  obtain ⟨W0, hW0⟩ : ∃ W, (w.alloc (.cells #[.slice a n cap, .int .i64 ops, .slice fa m fc, .bool down] 35)).alloc (.cells #[.slice none 0 0, .int .i64 0, .slice none 0 0, .bool false] 35) = W := ⟨_, rfl⟩
  rw [hW0] at B0 z0 z1 hws x0 x1 x2 x3 ⊢
  try rw [hH]
  clear hW0 hH
  have HW : Hid _ := hws
  have HB0 : Hid (Below w.heap.size w W0) := B0
  have HT : Hid (∀ W : World, Below W0.heap.size W0 W → CR W a n bs ∧ FR W fa m fs) := fun W h => ⟨(ht.keep B0).keep h, (hf.keep B0).keep h⟩
  have HZ0 : Hid (Blk W0 H 35 #[.slice a n cap, .int .i64 ops, .slice fa m fc, .bool down]) := z0
  have HZ1 : Hid (Blk W0 (H + 1) 35 #[.slice none 0 0, .int .i64 0, .slice none 0 0, .bool false]) := z1
  have hln : Hid (bs.length = n) := ht.len
  clear ht hf B0 z0 z1
  go_wp2_with fail
  refine (copyDevS a n cap bs ops fa m fc fs down W0 (HT.out _ (Below.refl _ _)).1 (HT.out _ (Below.refl _ _)).2).mono ?_
  rintro e w1 ⟨a1, n1, c1, fa1, m1, fc1, qs, rfl, hd, hl, b1⟩
  dsimp only at hd ⊢
  clear x0 x1 x2 x3
  have hn1 : n1 = n := by rw [← hl, hd.bs.len]; simp [hln.out]
  subst hn1
  have zX := Blk.new w1 35 #[.slice a1 n1 c1, .int .i64 ops, .slice fa1 m1 fc1, .bool down]
  have b2 : Below w1.heap.size w1 (w1.alloc (.cells #[.slice a1 n1 c1, .int .i64 ops, .slice fa1 m1 fc1, .bool down] 35)) := (Below.refl _ _).alloc (Nat.le_refl _) _
  have hd2 := hd.keep b2
  have hlt : Hid (∀ g ∈ fpDv a1 n1 c1 fa1 m1 fc1 qs, g < w1.heap.size) := hd.lt
  have hW1 : W0.heap.size ≤ w1.heap.size := b1.size
  have B2 := b1.trans (b2.mono b1.size)
  obtain ⟨X, hX⟩ : ∃ X, w1.heap.size = X := ⟨_, rfl⟩
  rw [hX] at zX hlt hW1
  go_upto_region 2 with fail
  obtain ⟨W2, hW2⟩ : ∃ W, w1.alloc (.cells #[.slice a1 n1 c1, .int .i64 ops, .slice fa1 m1 fc1, .bool down] 35) = W := ⟨_, rfl⟩
  rw [hW2] at zX hd2 B2 b2 ⊢
  try rw [hX]
  clear hW2 b2 b1 hd hX
  have BD : Below W0.heap.size W0 W2.drew := B2.drew
  have hall : Hid (∀ W : World, Below W2.drew.heap.size W2.drew W → W.cell? ⟨H, 0, none⟩ = some (.slice a n1 cap) ∧ W.cell? ⟨H, 1, none⟩ = some (.int .i64 ops) ∧ W.cell? ⟨H, 2, none⟩ = some (.slice fa m fc) ∧ W.cell? ⟨H, 3, none⟩ = some (.bool down)) := fun W hW => by
    have := Blk.keep HZ0.out (BD.trans (hW.mono BD.size))
    exact ⟨this.cell 0, this.cell 1, this.cell 2, this.cell 3⟩
  have HBD : Hid _ := BD
  have hcE := l10EraseS a n1 cap bs x W2.drew (HT.out _ BD).1
  have HMY : Hid (∀ W : World, Below W0.heap.size W0 W → ∀ c : Int, Calls Tryz.prog 39 #[.agg #[.slice a n1 cap, .int .i64 ops, .slice fa m fc, .bool down], .int .i64 c] W fun e w' => e = .returned (.int .i64 (evCode (bs.map BkR.D) ops fs down c)) ∧ Below W.heap.size W w') := fun W h c => l11MayS a n1 cap bs ops fa m fc fs down c W (HT.out _ h).1 (HT.out _ h).2
  have hce : evCode (bs.map BkR.D) ops fs down (mayD (chipOkB (bs.map BkR.D)) (bs.map BkR.D) x (wornAt (bs.map BkR.D) x)) = CD := by rw [← HCD.out]; exact evCode_ok _ _ _ _ (fun b => codeE b (bs.map BkR.D) x)
  obtain ⟨cc, hcc⟩ : ∃ cc, mayD (chipOkB (bs.map BkR.D)) (bs.map BkR.D) x (wornAt (bs.map BkR.D) x) = cc := ⟨_, rfl⟩
  rw [hcc] at hcE hce
  have HCE : Hid _ := hce
  obtain ⟨s0, s1, s2, s3⟩ := hall.out W2.drew (Below.refl _ _)
  clear BD hcc hce
  refine wp_region_noPanic ?_
  refine wp_region_last (fun W : World => W.cell? ⟨H, 0, none⟩ = some (.slice a n1 cap) ∧ W.cell? ⟨H, 1, none⟩ = some (.int .i64 ops) ∧ W.cell? ⟨H, 2, none⟩ = some (.slice fa m fc) ∧ W.cell? ⟨H, 3, none⟩ = some (.bool down)) 6 (by kernel_rfl) (by kernel_rfl) (by go_keep) 6 (by kernel_rfl) (fun hS => ?_)
  refine wpAnyH_take (i := 0) (v := ?gv1) rfl (by kernel_rfl) (by kernel_rfl) (by kernel_rfl) (fun _ _ _ h => h) (Or.inl ⟨by kernel_rfl, ?gy1⟩) (by assumption) ?gr1
  case gy1 => (intro w' hSw; (try dsimp only at hSw); go_simp; (try with_reducible rfl))
  try simp only [Act.put, List.setIfInBounds_toArray, List.set_cons_zero, List.set_cons_succ, List.getElem_toArray, List.getElem_cons_zero]
  refine wpAnyH_take (i := 1) (v := ?gv2) rfl (by kernel_rfl) (by kernel_rfl) (by kernel_rfl) (fun _ _ _ h => h) (Or.inl ⟨by kernel_rfl, ?gy2⟩) (by assumption) ?gr2
  case gy2 => (intro w' hSw; (try dsimp only at hSw); go_simp; (try with_reducible rfl))
  try simp only [Act.put, List.setIfInBounds_toArray, List.set_cons_zero, List.set_cons_succ, List.getElem_toArray, List.getElem_cons_succ, List.getElem_cons_zero]
  refine wpAnyH_take (i := 2) (v := ?gv3) rfl (by kernel_rfl) (by kernel_rfl) (by kernel_rfl) (fun _ _ _ h => h) (Or.inl ⟨by kernel_rfl, ?gy3⟩) (by assumption) ?gr3
  case gy3 => (intro w' hSw; (try dsimp only at hSw); go_simp; (try with_reducible rfl))
  try simp only [Act.put, List.setIfInBounds_toArray, List.set_cons_zero, List.set_cons_succ, List.getElem_toArray, List.getElem_cons_succ, List.getElem_cons_zero]
  refine wpAnyH_take (i := 3) (v := ?gv4) rfl (by kernel_rfl) (by kernel_rfl) (by kernel_rfl) (fun _ _ _ h => h) (Or.inl ⟨by kernel_rfl, ?gy4⟩) (by assumption) ?gr4
  case gy4 => (intro w' hSw; (try dsimp only at hSw); go_simp; (try with_reducible rfl))
  try simp only [Act.put, List.setIfInBounds_toArray, List.set_cons_zero, List.set_cons_succ, List.getElem_toArray, List.getElem_cons_succ, List.getElem_cons_zero]
  refine wpAnyH_ready (rs := [4]) (by kernel_rfl) (by simp) ?_
  refine AllReadyH.cons rfl (fun K hK => ?_) AllReadyH.nil
  go_simp
  (with_reducible refine hcE.mono ?_)
  rintro e W3 ⟨rfl, b3⟩
  have HB3 : Hid (Below W2.drew.heap.size W2.drew W3) := b3
  have hcM := HMY.out W3 (HBD.out.trans (b3.mono HBD.out.size)) cc
  rw [HCE.out] at hcM
  clear b3
  clear hS
  try dsimp only
  refine Shut.out hK _ _ (hall.out W3 HB3.out) (fun hS => ?_)
  try simp only [Act.put, List.setIfInBounds_toArray, List.set_cons_zero, List.set_cons_succ, List.getElem_toArray, List.getElem_cons_succ, List.getElem_cons_zero]
  refine wpAnyH_ready (rs := [5]) (by kernel_rfl) (by simp) ?_
  refine AllReadyH.cons rfl (fun K hK => ?_) AllReadyH.nil
  go_simp
  (with_reducible refine hcM.mono ?_)
  rintro e W4 ⟨rfl, b4⟩
  have HB4 : Hid (Below W2.drew.heap.size W2.drew W4) := HB3.out.trans (b4.mono HB3.out.size)
  clear b4
  clear hS
  try dsimp only
  refine Shut.out hK _ _ (hall.out W4 HB4.out) (fun hS => ?_)
  try simp only [Act.put, List.setIfInBounds_toArray, List.set_cons_zero, List.set_cons_succ, List.getElem_toArray, List.getElem_cons_succ, List.getElem_cons_zero]
  refine wpAnyH_done (by kernel_rfl) ?_ _
  refine wpOp_last rfl (fun K hK => ?_)
  clear hS
  go_simp
  refine Shut.out hK _ _ (NoPanic.normal ?_)
  have b4 : Below W2.heap.size W2 W4 := (Below.refl _ _).drew.trans HB4.out
  have hd4 := hd2.keep b4
  have zX4 := zX.keep b4
  have B4 := B2.trans (b4.mono B2.size)
  have zr4 := Blk.keep HZ1.out B4
  have zH4 := Blk.keep HZ0.out B4
  clear s0 s1 s2 s3 hcE hcM HMY HCE HB3 HB4 hall HBD hd2 zX b4 B2
  by_cases hc0 : CD = 0
  · subst hc0
    obtain ⟨hdv, hdn, hop1, hcz⟩ := evCode_zero HCD.out
    obtain ⟨hok, hop0, hfok⟩ := devB_ops hdv
    subst hdn
    obtain ⟨_, k, r, rfl, hrk, hrb, _⟩ := code_zero (bs := bs) hcz
    have hkn : k < n1 := by have := (List.getElem?_eq_some_iff.1 hrk).1; have := hln.out; omega
    have hki : (k : Int) < (n1 : Int) := by omega
    have hkk : ¬ (k : Int) < 0 := by omega
    obtain ⟨t, htk, htr⟩ := same_at (f := BkR.D) hd4.bs.D hrk
    have HRK : Hid (bs[k]? = some r ∧ chipOkB (bs.map BkR.D) = true ∧ codeE true (bs.map BkR.D) (k : Int) = 0) := ⟨hrk, hok, hcz⟩
    have HTK : Hid (qs[k]? = some t ∧ t.D = r.D) := ⟨htk, htr⟩
    obtain ⟨g, ha1⟩ : ∃ g, a1 = some ⟨g, 0, none⟩ := by
      rcases (show OwnE bkE 57 W4 (.slice a1 n1 c1) qs.length qs from hd4.bs.own.1).cases with ⟨_, _, h0⟩ | ⟨g, c, h0, _⟩
      · rw [h0] at htk; simp at htk
      · simp only [Value.slice.injEq] at h0; exact ⟨g, h0.1⟩
    subst ha1
    have hgX : g < X := hlt.out g (fpDv_bs (fpBs_row rfl))
    have hwr : IntKind.i64.wrap (ops + 1) = ops + 1 := wrap_small _ (by omega) (by omega)
    have hcF := faultAtS a n1 cap ops fa m fc fs false W4 (HT.out _ B4).2
    unfold FaA at hcF
    have h0 := zH4.cell 0
    have h1 := zH4.cell 1
    have h2 := zH4.cell 2
    have h3 := zH4.cell 3
    simp at h0 h1 h2 h3
    have HKP : Hid (∀ t, faD ops fs = some t → 0 ≤ t.kp ∧ t.kp ≤ 400) := fun t ht => by
      have h1 := hfok t (List.mem_of_find?_eq_some ht)
      unfold ftOk at h1
      simp at h1
      omega
    clear htk htr hrk hcz hdv hfok hok
    go_wp2_with fail
    refine hcF.mono ?_
    rintro e w5 ⟨rfl, b5⟩
    obtain ⟨o, hoo⟩ : ∃ o, faD ops fs = o := ⟨_, rfl⟩
    rw [hoo] at HGP HKP ⊢
    obtain ⟨ft, hft⟩ : ∃ t, (o.getD ftZ).tm = t := ⟨_, rfl⟩
    obtain ⟨fk, hfk⟩ : ∃ t, (o.getD ftZ).kd = t := ⟨_, rfl⟩
    obtain ⟨fp, hfp⟩ : ∃ t, (o.getD ftZ).kp = t := ⟨_, rfl⟩
    obtain ⟨bd, hbd⟩ : ∃ t, o.isSome = t := ⟨_, rfl⟩
    rw [hft, hfk, hfp, hbd]
    have HO : Hid (o = if bd then some ⟨ft, fk, fp⟩ else none) := by
      show _ = _
      subst hft hfk hfp hbd
      cases o <;> rfl
    have zT := Blk.new w5 65 #[.int .i64 ft, .int .i64 fk, .int .i64 fp]
    have b6 : Below w5.heap.size w5 (w5.alloc (.cells #[.int .i64 ft, .int .i64 fk, .int .i64 fp] 65)) := (Below.refl _ _).alloc (Nat.le_refl _) _
    have b46 := b5.trans (b6.mono b5.size)
    have hd6 := hd4.keep b46
    have zX6 := zX4.keep b46
    have zr6 := zr4.keep b46
    have zH6 := zH4.keep b46
    have B6 := B4.trans (b46.mono B4.size)
    have hXT : X < w5.heap.size := (zX4.keep b5).lt
    obtain ⟨T, hT⟩ : ∃ T, w5.heap.size = T := ⟨_, rfl⟩
    rw [hT] at zT hXT
    clear hcF h0 h1 h2 h3 hd4 zX4 zr4 zH4 B4 b5 hoo hft hfk hfp hbd
    go_upto_region 6 with fail
    obtain ⟨W6, hW6⟩ : ∃ W, w5.alloc (.cells #[.int .i64 ft, .int .i64 fk, .int .i64 fp] 65) = W := ⟨_, rfl⟩
    rw [hW6] at zT hd6 zX6 zr6 zH6 B6 ⊢
    try rw [hT]
    clear hW6 b6 b46 hT
    have u1 := zX6.cell 1
    have g1 := zX6.frozen 1
    have h1 := zH6.cell 1
    simp at u1 h1
    have zX7 := zX6.set 1 (.int .i64 (ops + 1))
    have hXn : w.heap.size ≤ X ∧ H + 1 < X := by have := HW.out; have := HH.out; omega
    have zr7 := zr6.other (B' := X) (by omega) 1 (.int .i64 (ops + 1))
    have zH7 := zH6.other (B' := X) (by omega) 1 (.int .i64 (ops + 1))
    have zT7 := zT.other (B' := X) (by omega) 1 (.int .i64 (ops + 1))
    have hd7 := hd6.svs (sv_one W6 X 1 (.int .i64 (ops + 1))) (fun j hj hf => by simp at hf; have := hlt.out j hj; omega)
    have B7 : Below W0.heap.size W0 (W6.setCell ⟨X, 1, none⟩ (.int .i64 (ops + 1))) := B6.setCell (p := ⟨X, 1, none⟩) hW1 _
    clear hd6 zX6 zr6 zH6 zT B6
    go_upto_region 7 with fail
    obtain ⟨W7, hW7⟩ : ∃ W, W6.setCell ⟨X, 1, none⟩ (.int .i64 (ops + 1)) = W := ⟨_, rfl⟩
    rw [hW7] at zX7 zr7 zH7 zT7 hd7 B7 ⊢
    clear hW7 u1 g1 h1
    simp at zX7
    have c1' := zT7.cell 1
    simp at c1'
    by_cases hbad : bd = true ∧ fk = 1
    · obtain ⟨rfl, rfl⟩ := hbad
      have hOw : OwnE bkE 57 W7 (.slice (some ⟨g, 0, none⟩) n1 c1) n1 qs := by have := hd7.bs.own.1; rw [hl] at this; exact this
      have v0 := hOw.cell k 2 t HTK.out.1 (by decide)
      have v1 : W7.cell? ⟨g, k * 3 + 2, none⟩ = some (.bool t.bad) := v0
      have vf := hOw.frozen (k * 3 + 2)
      have u0 := zX7.cell 0
      simp at u0
      have zX8 := zX7.other (B' := g) (by omega) (k * 3 + 2) (.bool true)
      have hHg : H + 1 < g := by have := hd7.bs.new g (fpBs_row rfl); have := HW.out; have := HH.out; omega
      have zr8 := zr7.other (B' := g) (by omega) (k * 3 + 2) (.bool true)
      have hd8 := hd7.bad hl HTK.out.1
      have B8 : Below W0.heap.size W0 (W7.setCell ⟨g, k * 3 + 2, none⟩ (.bool true)) := B7.setCell (p := ⟨g, k * 3 + 2, none⟩) (hd7.bs.new g (fpBs_row rfl)) _
      clear hOw v0 hd7 zX7 zr7 zH7 zT7 B7
      go_upto_region 9 with fail
      obtain ⟨W8, hW8⟩ : ∃ W, W7.setCell ⟨g, k * 3 + 2, none⟩ (.bool true) = W := ⟨_, rfl⟩
      rw [hW8] at zX8 zr8 hd8 B8 ⊢
      clear hW8 v1 vf u0 c1'
      have r0 := zr8.cell 0
      have r1 := zr8.cell 1
      have r2 := zr8.cell 2
      have r3 := zr8.cell 3
      have f0 := zr8.frozen 0
      have f1 := zr8.frozen 1
      have f2 := zr8.frozen 2
      have f3 := zr8.frozen 3
      have zf := (((zr8.set 0 (.slice (some ⟨g, 0, none⟩) n1 c1)).set 1 (.int .i64 (ops + 1))).set 2 (.slice fa1 m1 fc1)).set 3 (.bool false)
      have d0 := zf.cell 0
      have d1 := zf.cell 1
      have d2 := zf.cell 2
      have d3 := zf.cell 3
      have y0 := zX8.cell 0
      have y1 := zX8.cell 1
      have y2 := zX8.cell 2
      have y3 := zX8.cell 3
      simp at r0 r1 r2 r3 d0 d1 d2 d3 y0 y1 y2 y3
      have HN : Hid _ := And.intro hd8 (And.intro (show (qs.set k ⟨t.a, t.cap, t.ps, t.wear, true⟩).length = n1 by rw [List.length_set]; exact hl) B8)
      clear zf hd8 zX8 zr8 B8
      go_wp2
      refine bodyPost_ret (v := .tuple #[.agg #[.slice (some ⟨g, 0, none⟩) n1 c1, .int .i64 (ops + 1), .slice fa1 m1 fc1, .bool false], .int .i64 2]) (by simp [results, Tryz.f18, go_sem, d0, d1, d2, d3]) rfl ?_
      obtain ⟨hnd, hl, hbel⟩ := HN.out
      rw [← HGP.out]
      have hos := HO.out
      simp only [if_true] at hos
      have hbe : badD (bs.map BkR.D) (k : Int).toNat = (bs.map BkR.D).set k ⟨t.ps.map PgR.D, t.wear, true⟩ := by
        have h5 := HTK.out.2
        unfold BkR.D at h5
        simp only [BkD.mk.injEq] at h5
        unfold badD
        rw [Int.toNat_natCast, List.getElem?_map, HRK.out.1]
        simp only [Option.map_some, BkR.D]
        rw [h5.1, h5.2.1]
      rw [hos, show outDs 0 (some ⟨ft, 1, fp⟩) (bs.map BkR.D) (eraseAt (bs.map BkR.D) (k : Int).toNat) (badD (bs.map BkR.D) (k : Int).toNat) (tornD (bs.map BkR.D) (k : Int).toNat) = badD (bs.map BkR.D) (k : Int).toNat from rfl, hbe]
      have hH := HH.out
      have hw := HW.out
      have h1 : H + 1 < W0.heap.size := by omega
      have bel : Below w.heap.size w W8 := HB0.out.trans (hbel.mono HB0.out.size)
      have s : ∀ (W : World) (i : Nat) (v : Value), Below w.heap.size w W → Below w.heap.size w (W.setCell ⟨H + 1, i, none⟩ v) := fun W i v hb => hb.setCell (p := ⟨H + 1, i, none⟩) (by simp only; omega) v
      exact ⟨_, _, _, _, _, _, _, rfl, ((((hnd.set_below h1).set_below h1).set_below h1).set_below h1).wider HB0.out.size, hl, s _ _ _ (s _ _ _ (s _ _ _ (s _ _ _ bel)))⟩
    · cases bd with
      | false =>
        have hos := HO.out
        simp only [Bool.false_eq_true, if_false] at hos
        have HOS : Hid (o = none) := hos
        clear hos HO
        have h0 := zH7.cell 0
        simp at h0
        have hcR := eraseS a n1 cap bs (k : Int) W7 (HT.out _ B7).1
        rw [HRK.out.2.1, show eraseD true (bs.map BkR.D) (k : Int) = eraseAt (bs.map BkR.D) k from (by unfold eraseD; rw [HRK.out.2.2, if_pos rfl, Int.toNat_natCast]), HRK.out.2.2] at hcR
        have hTW : T < W7.heap.size := zT7.lt
        go_wp2_with fail
        refine hcR.mono ?_
        rintro e w8 ⟨aE, nE, cE, qE, rfl, hqE, hlE, b8⟩
        have hnE : nE = n1 := by
          have h5 : (eraseAt (bs.map BkR.D) k).length = n1 := by
            unfold eraseAt
            split
            · rw [List.length_set]; simp [hln.out]
            · simp [hln.out]
          rw [← hlE, hqE.len, h5]
        subst hnE
        have zX8 := zX7.keep b8
        have zr8 := zr7.keep b8
        have zT8 := zT7.keep b8
        have hd8 := hd7.chip b8 hqE B7.size
        have B8 := B7.trans (b8.mono B7.size)
        have u0 := zX8.cell 0
        have g0 := zX8.frozen 0
        simp at u0
        have zX9 := zX8.set 0 (.slice aE nE cE)
        have zr9 := zr8.other (B' := X) (by omega) 0 (.slice aE nE cE)
        have zT9 := zT8.other (B' := X) (by omega) 0 (.slice aE nE cE)
        have hd9 := hd8.svs (sv_one w8 X 0 (.slice aE nE cE)) (fun j hj hf => by
          simp at hf
          subst hf
          rcases List.mem_append.1 hj with h5 | h5
          · have := hqE.new j h5; omega
          · have := hlt.out j (List.mem_append_right _ h5); omega)
        have B9 : Below W0.heap.size W0 (w8.setCell ⟨X, 0, none⟩ (.slice aE nE cE)) := B8.setCell (p := ⟨X, 0, none⟩) hW1 _
        clear hcR zX7 zr7 zT7 zH7 hd7 B7 zX8 zr8 zT8 hd8 B8 h0
        go_upto_region 11 with fail
        obtain ⟨W9, hW9⟩ : ∃ W, w8.setCell ⟨X, 0, none⟩ (.slice aE nE cE) = W := ⟨_, rfl⟩
        rw [hW9] at zX9 zr9 zT9 hd9 B9 ⊢
        clear hW9 u0 g0
        simp at zX9
        have r0 := zr9.cell 0
        have r1 := zr9.cell 1
        have r2 := zr9.cell 2
        have r3 := zr9.cell 3
        have f0 := zr9.frozen 0
        have f1 := zr9.frozen 1
        have f2 := zr9.frozen 2
        have f3 := zr9.frozen 3
        have zf := (((zr9.set 0 (.slice aE nE cE)).set 1 (.int .i64 (ops + 1))).set 2 (.slice fa1 m1 fc1)).set 3 (.bool false)
        have d0 := zf.cell 0
        have d1 := zf.cell 1
        have d2 := zf.cell 2
        have d3 := zf.cell 3
        have y0 := zX9.cell 0
        have y1 := zX9.cell 1
        have y2 := zX9.cell 2
        have y3 := zX9.cell 3
        simp at r0 r1 r2 r3 d0 d1 d2 d3 y0 y1 y2 y3
        have HN : Hid _ := And.intro hd9 (And.intro hlE B9)
        clear zf hd9 zX9 zr9 zT9 B9 hqE hlE b8
        go_wp2
        refine bodyPost_ret (v := .tuple #[.agg #[.slice aE nE cE, .int .i64 (ops + 1), .slice fa1 m1 fc1, .bool false], .int .i64 0]) (by simp [results, Tryz.f18, go_sem, d0, d1, d2, d3]) rfl ?_
        obtain ⟨hnd, hl, hbel⟩ := HN.out
        rw [← HGP.out]
        rw [HOS.out, show outDs 0 none (bs.map BkR.D) (eraseAt (bs.map BkR.D) (k : Int).toNat) (badD (bs.map BkR.D) (k : Int).toNat) (tornD (bs.map BkR.D) (k : Int).toNat) = eraseAt (bs.map BkR.D) k from rfl]
        have hH := HH.out
        have hw := HW.out
        have h1 : H + 1 < W0.heap.size := by omega
        have bel : Below w.heap.size w W9 := HB0.out.trans (hbel.mono HB0.out.size)
        have s : ∀ (W : World) (i : Nat) (v : Value), Below w.heap.size w W → Below w.heap.size w (W.setCell ⟨H + 1, i, none⟩ v) := fun W i v hb => hb.setCell (p := ⟨H + 1, i, none⟩) (by simp only; omega) v
        exact ⟨_, _, _, _, _, _, _, rfl, ((((hnd.set_below h1).set_below h1).set_below h1).set_below h1).wider HB0.out.size, hl, s _ _ _ (s _ _ _ (s _ _ _ (s _ _ _ bel)))⟩
      | true =>
        have hfk : ¬ fk = 1 := fun h => hbad ⟨rfl, h⟩
        have hfkb : (fk == 1) = false := by simpa using hfk
        have hos := HO.out
        simp only [if_true] at hos
        have hkp := HKP.out _ hos
        dsimp only at hkp
        have HOS : Hid (o = some ⟨ft, fk, fp⟩ ∧ ¬ fk = 1) := ⟨hos, hfk⟩
        clear hos HO hfk
        have h0 := zH7.cell 0
        simp at h0
        have hcR := eraseS a n1 cap bs (k : Int) W7 (HT.out _ B7).1
        rw [HRK.out.2.1, show eraseD true (bs.map BkR.D) (k : Int) = eraseAt (bs.map BkR.D) k from (by unfold eraseD; rw [HRK.out.2.2, if_pos rfl, Int.toNat_natCast]), HRK.out.2.2] at hcR
        have hTW : T < W7.heap.size := zT7.lt
        go_wp2_with fail
        refine hcR.mono ?_
        rintro e w8 ⟨aE, nE, cE, qE, rfl, hqE, hlE, b8⟩
        have hnE : nE = n1 := by
          have h5 : (eraseAt (bs.map BkR.D) k).length = n1 := by
            unfold eraseAt
            split
            · rw [List.length_set]; simp [hln.out]
            · simp [hln.out]
          rw [← hlE, hqE.len, h5]
        subst hnE
        have zX8 := zX7.keep b8
        have zr8 := zr7.keep b8
        have zT8 := zT7.keep b8
        have hd8 := hd7.chip b8 hqE B7.size
        have B8 := B7.trans (b8.mono B7.size)
        have u0 := zX8.cell 0
        have g0 := zX8.frozen 0
        simp at u0
        have zX9 := zX8.set 0 (.slice aE nE cE)
        have zr9 := zr8.other (B' := X) (by omega) 0 (.slice aE nE cE)
        have zT9 := zT8.other (B' := X) (by omega) 0 (.slice aE nE cE)
        have hd9 := hd8.svs (sv_one w8 X 0 (.slice aE nE cE)) (fun j hj hf => by
          simp at hf
          subst hf
          rcases List.mem_append.1 hj with h5 | h5
          · have := hqE.new j h5; omega
          · have := hlt.out j (List.mem_append_right _ h5); omega)
        have B9 : Below W0.heap.size W0 (w8.setCell ⟨X, 0, none⟩ (.slice aE nE cE)) := B8.setCell (p := ⟨X, 0, none⟩) hW1 _
        clear hcR zX7 zr7 zT7 zH7 hd7 B7 zX8 zr8 zT8 hd8 B8 h0
        go_upto_region 11 with fail
        obtain ⟨W9, hW9⟩ : ∃ W, w8.setCell ⟨X, 0, none⟩ (.slice aE nE cE) = W := ⟨_, rfl⟩
        rw [hW9] at zX9 zr9 zT9 hd9 B9 ⊢
        clear hW9 u0 g0
        simp at zX9
        obtain ⟨q, rfl⟩ : ∃ q : Nat, fp = (q : Int) := ⟨fp.toNat, by omega⟩
        have hE0 : eraseAt (bs.map BkR.D) k = (bs.map BkR.D).set k ⟨(List.range 8).map fun i => (⟨decide (i < 0), []⟩ : PgD), r.wear + 1, r.bad⟩ := by
          unfold eraseAt
          rw [List.getElem?_map, HRK.out.1]
          rfl
        have hlb : k < (bs.map BkR.D).length := by simp [hln.out]; omega
        obtain ⟨b, hbk⟩ : ∃ b, qE[k]? = some b := ⟨_, List.getElem?_eq_getElem (by omega)⟩
        have hbD : b.D = ⟨(List.range 8).map fun i => (⟨decide (i < 0), []⟩ : PgD), r.wear + 1, r.bad⟩ := by
          have h5 := congrArg (fun l => l[k]?) hqE.D
          rw [hE0] at h5
          simp only [List.getElem?_map, hbk, Option.map_some, List.getElem?_set_self hlb, Option.some.injEq] at h5
          exact h5
        have hb8 : b.ps.length = 8 := by
          have h5 := congrArg (fun d => d.ps.length) hbD
          simpa [BkR.D] using h5
        obtain ⟨P, hbP⟩ : ∃ P, b.a = some ⟨P, 0, none⟩ := by
          rcases (show OwnE pgE 85 w8 (.slice b.a b.ps.length b.cap) b.ps.length b.ps from (hqE.own.2 b (List.mem_of_getElem? hbk)).1).cases with ⟨_, h5, _⟩ | ⟨P, c, h5, _⟩
          · omega
          · simp only [Value.slice.injEq] at h5; exact ⟨P, h5.1⟩
        obtain ⟨gE, haE⟩ : ∃ g, aE = some ⟨g, 0, none⟩ := by
          rcases (show OwnE bkE 57 w8 (.slice aE nE cE) qE.length qE from hqE.own.1).cases with ⟨_, _, h5⟩ | ⟨g, c, h5, _⟩
          · rw [h5] at hbk; simp at hbk
          · simp only [Value.slice.injEq] at h5; exact ⟨g, h5.1⟩
        subst haE
        have hPT : T < P := by
          have h5 := hqE.new P (fpBs_bk (List.mem_of_getElem? hbk) (fpPs_row (by unfold BkR.v; rw [hbP]; rfl)))
          omega
        rw [hE0] at hd9
        obtain ⟨cp, hcp⟩ : ∃ c, b.cap = c := ⟨_, rfl⟩
        have HST : Hid (∃ us b', NewDv W9 W0.heap.size (some ⟨gE, 0, none⟩) nE cE fa1 m1 fc1 ((bs.map BkR.D).set k ⟨(List.range 8).map fun i => (⟨decide (i < 0), []⟩ : PgD), r.wear + 1, r.bad⟩) fs us ∧ us.length = nE ∧ us[k]? = some b' ∧ b'.a = some ⟨P, 0, none⟩ ∧ b'.cap = cp ∧ b'.D = ⟨(List.range 8).map fun i => (⟨decide (i < 0), []⟩ : PgD), r.wear + 1, r.bad⟩ ∧ Blk W9 X 35 #[.slice (some ⟨gE, 0, none⟩) nE cE, .int .i64 (ops + 1), .slice fa1 m1 fc1, .bool false] ∧ Blk W9 T 65 #[.int .i64 ft, .int .i64 fk, .int .i64 (q : Int)] ∧ Blk W9 (H + 1) 35 #[.slice none 0 0, .int .i64 0, .slice none 0 0, .bool false] ∧ Below W0.heap.size W0 W9 ∧ X ∉ fpBs (.slice (some ⟨gE, 0, none⟩) nE cE) us) := ⟨qE, b, hd9, hlE, hbk, hbP, hcp, hbD, zX9, zT9, zr9, B9, fun hf => by have := hqE.new X hf; omega⟩
        clear hd9 hqE hlE b8 zX9 zT9 zr9 B9 hbk hbP hcp hbD hb8 hE0
        go_wp2
        go_loopw [10] (fun i wr => ∃ j : Nat, j ≤ 8 ∧ j ≤ q ∧ i = .int .i64 j ∧ Hid (∃ us b', NewDv wr W0.heap.size (some ⟨gE, 0, none⟩) nE cE fa1 m1 fc1 ((bs.map BkR.D).set k ⟨(List.range 8).map fun i => (⟨decide (i < j), []⟩ : PgD), r.wear + 1, r.bad⟩) fs us ∧ us.length = nE ∧ us[k]? = some b' ∧ b'.a = some ⟨P, 0, none⟩ ∧ b'.cap = cp ∧ b'.D = ⟨(List.range 8).map fun i => (⟨decide (i < j), []⟩ : PgD), r.wear + 1, r.bad⟩ ∧ Blk wr X 35 #[.slice (some ⟨gE, 0, none⟩) nE cE, .int .i64 (ops + 1), .slice fa1 m1 fc1, .bool false] ∧ Blk wr T 65 #[.int .i64 ft, .int .i64 fk, .int .i64 (q : Int)] ∧ Blk wr (H + 1) 35 #[.slice none 0 0, .int .i64 0, .slice none 0 0, .bool false] ∧ Below W0.heap.size W0 wr ∧ X ∉ fpBs (.slice (some ⟨gE, 0, none⟩) nE cE) us)) (fun i _ => 8 - (intOf i).toNat)
        case atStart => exact ⟨0, by omega, by omega, rfl, HST⟩
        case round =>
          obtain ⟨j, hj8, hjq, rfl, hst⟩ := hrel
          clear HST
          obtain ⟨us, b, hnd, hul, hub, hba, hbc, hbD, zx, zt, zr, bel, hXus⟩ := hst.out
          have t2 := zt.cell 2
          simp at t2
          by_cases hgo : j < 8 ∧ j < q
          · have hj8i : (j : Int) < 8 := by omega
            have hjqi : (j : Int) < (q : Int) := by omega
            have hb8 : b.ps.length = 8 := by
              have h5 := congrArg (fun d => d.ps.length) hbD
              simpa [BkR.D] using h5
            have hown : OwnE bkE 57 wr (.slice (some ⟨gE, 0, none⟩) nE cE) nE us := by have := hnd.bs.own.1; rw [hul] at this; exact this
            have hpow : OwnE pgE 85 wr (.slice (some ⟨P, 0, none⟩) 8 cp) 8 b.ps := by
              have := (hnd.bs.own.2 b (List.mem_of_getElem? hub)).1
              unfold BkR.v at this
              rw [hba, hbc, hb8] at this
              exact this
            have x0 := zx.cell 0
            simp at x0
            have v0 : wr.cell? ⟨gE, k * 3, none⟩ = some (.slice (some ⟨P, 0, none⟩) 8 cp) := by
              rw [show wr.cell? ⟨gE, k * 3, none⟩ = some (.slice b.a b.ps.length b.cap) from hown.cell k 0 b hub (by decide), hba, hb8, hbc]
            have bA : Below wr.heap.size wr (wr.alloc (.cells #[] 5)) := (Below.refl _ _).alloc (Nat.le_refl _) _
            have pA := hpow.keep bA
            obtain ⟨p, hp⟩ : ∃ p, b.ps[j]? = some p := ⟨_, List.getElem?_eq_getElem (by omega)⟩
            have w0' : (wr.alloc (.cells #[] 5)).cell? ⟨P, j * 2, none⟩ = some (.bool p.used) := pA.cell j 0 p hp (by decide)
            have w1' : (wr.alloc (.cells #[] 5)).cell? ⟨P, j * 2 + 1, none⟩ = some (.slice p.a p.zs.length p.cap) := pA.cell j 1 p hp (by decide)
            have q0 : (wr.alloc (.cells #[] 5)).frozen? ⟨P, j * 2, none⟩ = false := pA.frozen (j * 2)
            have q1 : (wr.alloc (.cells #[] 5)).frozen? ⟨P, j * 2 + 1, none⟩ = false := pA.frozen (j * 2 + 1)
            have hnw := hnd.page hul hub hba (q := j) (by omega) bA (zs := []) (nq := 0) rfl (OwnV.rowB ownV_fresh) (fun i hi => by simp [Value.ownBlock] at hi; omega)
            have hps : b.ps.map PgR.D = (List.range 8).map fun i => (⟨decide (i < j), []⟩ : PgD) := congrArg BkD.ps hbD
            have hwr2 : b.wear = r.wear + 1 := congrArg BkD.wear hbD
            have hbb : b.bad = r.bad := congrArg BkD.bad hbD
            rw [List.set_set, hps, hwr2, hbb, pagesT_succ hgo.1] at hnw
            have zxA := ((zx.keep bA).other (B' := P) (by omega) (j * 2) (.bool true)).other (B' := P) (by omega) (j * 2 + 1) (.slice (some ⟨wr.heap.size, 0, none⟩) 0 0)
            have ztA := ((zt.keep bA).other (B' := P) (by omega) (j * 2) (.bool true)).other (B' := P) (by omega) (j * 2 + 1) (.slice (some ⟨wr.heap.size, 0, none⟩) 0 0)
            have zrA := ((zr.keep bA).other (B' := P) (by omega) (j * 2) (.bool true)).other (B' := P) (by omega) (j * 2 + 1) (.slice (some ⟨wr.heap.size, 0, none⟩) 0 0)
            have hPn : W0.heap.size ≤ P := by omega
            have hXn2 : X ∉ fpBs (.slice (some ⟨gE, 0, none⟩) nE cE) (us.set k ⟨b.a, b.cap, b.ps.set j ⟨true, some ⟨wr.heap.size, 0, none⟩, 0, []⟩, r.wear + 1, r.bad⟩) := fun hf => by
              rcases fp_pg (W := wr) hub hf with h5 | h5
              · exact hXus h5
              · have := zx.lt; omega
            have belA : Below W0.heap.size W0 (((wr.alloc (.cells #[] 5)).setCell ⟨P, j * 2, none⟩ (.bool true)).setCell ⟨P, j * 2 + 1, none⟩ (.slice (some ⟨wr.heap.size, 0, none⟩) 0 0)) := ((bel.trans (bA.mono bel.size)).setCell (p := ⟨P, j * 2, none⟩) hPn _).setCell (p := ⟨P, j * 2 + 1, none⟩) hPn _
            have HNX : Hid (∃ us b', NewDv (((wr.alloc (.cells #[] 5)).setCell ⟨P, j * 2, none⟩ (.bool true)).setCell ⟨P, j * 2 + 1, none⟩ (.slice (some ⟨wr.heap.size, 0, none⟩) 0 0)) W0.heap.size (some ⟨gE, 0, none⟩) nE cE fa1 m1 fc1 ((bs.map BkR.D).set k ⟨(List.range 8).map fun i => (⟨decide (i < j + 1), []⟩ : PgD), r.wear + 1, r.bad⟩) fs us ∧ us.length = nE ∧ us[k]? = some b' ∧ b'.a = some ⟨P, 0, none⟩ ∧ b'.cap = cp ∧ b'.D = ⟨(List.range 8).map fun i => (⟨decide (i < j + 1), []⟩ : PgD), r.wear + 1, r.bad⟩ ∧ Blk (((wr.alloc (.cells #[] 5)).setCell ⟨P, j * 2, none⟩ (.bool true)).setCell ⟨P, j * 2 + 1, none⟩ (.slice (some ⟨wr.heap.size, 0, none⟩) 0 0)) X 35 #[.slice (some ⟨gE, 0, none⟩) nE cE, .int .i64 (ops + 1), .slice fa1 m1 fc1, .bool false] ∧ Blk (((wr.alloc (.cells #[] 5)).setCell ⟨P, j * 2, none⟩ (.bool true)).setCell ⟨P, j * 2 + 1, none⟩ (.slice (some ⟨wr.heap.size, 0, none⟩) 0 0)) T 65 #[.int .i64 ft, .int .i64 fk, .int .i64 (q : Int)] ∧ Blk (((wr.alloc (.cells #[] 5)).setCell ⟨P, j * 2, none⟩ (.bool true)).setCell ⟨P, j * 2 + 1, none⟩ (.slice (some ⟨wr.heap.size, 0, none⟩) 0 0)) (H + 1) 35 #[.slice none 0 0, .int .i64 0, .slice none 0 0, .bool false] ∧ Below W0.heap.size W0 (((wr.alloc (.cells #[] 5)).setCell ⟨P, j * 2, none⟩ (.bool true)).setCell ⟨P, j * 2 + 1, none⟩ (.slice (some ⟨wr.heap.size, 0, none⟩) 0 0)) ∧ X ∉ fpBs (.slice (some ⟨gE, 0, none⟩) nE cE) us) := by
              refine ⟨_, _, hnw, by rw [List.length_set]; exact hul, get_set hub, hba, hbc, ?_, zxA, ztA, zrA, belA, hXn2⟩
              show BkD.mk ((b.ps.set j ⟨true, some ⟨wr.heap.size, 0, none⟩, 0, []⟩).map PgR.D) _ _ = _
              rw [List.map_set, hps]
              rw [show PgR.D ⟨true, some ⟨wr.heap.size, 0, none⟩, 0, []⟩ = ⟨true, []⟩ from rfl, pagesT_succ hgo.1]
            clear hnw zxA ztA zrA belA hps hwr2 hbb pA hp hown hpow hnd hub hba hbc hbD zx zt zr bel bA hul hb8 hst
            go_wp2
            go_roundw
            case rel => exact ⟨j + 1, by omega, by omega, by go_num, HNX⟩
            case measure => simp [intOf]; omega
          · have hjM : j = min q 8 := by omega
            have x3 := zx.cell 3
            have g3 := zx.frozen 3
            simp at x3
            have zx2 := zx.set 3 (.bool true)
            have zr2 := zr.other (B' := X) (by omega) 3 (.bool true)
            have hlt2 : ∀ i ∈ fpDv (some ⟨gE, 0, none⟩) nE cE fa1 m1 fc1 us, i ≠ X := fun i hi e => by
              subst e
              rcases List.mem_append.1 hi with h5 | h5
              · exact hXus h5
              · have := hlt.out i (List.mem_append_right _ h5); omega
            have hnd2 := hnd.svs (sv_one wr X 3 (.bool true)) (fun i hi hf => by simp at hf; exact hlt2 i hi hf)
            have bel2 : Below W0.heap.size W0 (wr.setCell ⟨X, 3, none⟩ (.bool true)) := bel.setCell (p := ⟨X, 3, none⟩) hW1 _
            have HJ : Hid (j = min q 8) := hjM
            simp at zx2
            clear hst hnd hub hba hbc hbD zx zt zr bel hjM hlt2
            by_cases hj : j < 8
            · have hj8i : (j : Int) < 8 := by omega
              have hjqi : ¬ (j : Int) < (q : Int) := by omega
              go_upto_region 18 with fail
              obtain ⟨W10, hW10⟩ : ∃ W, wr.setCell ⟨X, 3, none⟩ (.bool true) = W := ⟨_, rfl⟩
              rw [hW10] at zx2 zr2 hnd2 bel2 ⊢
              clear hW10 t2 x3 g3
              have r0 := zr2.cell 0
              have r1 := zr2.cell 1
              have r2 := zr2.cell 2
              have r3 := zr2.cell 3
              have f0 := zr2.frozen 0
              have f1 := zr2.frozen 1
              have f2 := zr2.frozen 2
              have f3 := zr2.frozen 3
              have zf := (((zr2.set 0 (.slice (some ⟨gE, 0, none⟩) nE cE)).set 1 (.int .i64 (ops + 1))).set 2 (.slice fa1 m1 fc1)).set 3 (.bool true)
              have d0 := zf.cell 0
              have d1 := zf.cell 1
              have d2 := zf.cell 2
              have d3 := zf.cell 3
              have y0 := zx2.cell 0
              have y1 := zx2.cell 1
              have y2 := zx2.cell 2
              have y3 := zx2.cell 3
              simp at r0 r1 r2 r3 d0 d1 d2 d3 y0 y1 y2 y3
              have HN : Hid _ := And.intro hnd2 (And.intro hul bel2)
              clear zf hnd2 zx2 zr2 bel2 hul
              go_wp2
              refine bodyPost_ret (v := .tuple #[.agg #[.slice (some ⟨gE, 0, none⟩) nE cE, .int .i64 (ops + 1), .slice fa1 m1 fc1, .bool true], .int .i64 10]) (by simp [results, Tryz.f18, go_sem, d0, d1, d2, d3]) rfl ?_
              obtain ⟨hnd, hl, hbel⟩ := HN.out
              rw [← HGP.out]
              obtain ⟨e1, e2⟩ := HOS.out
              have hj := HJ.out
              have hto : outDs 0 (some ⟨ft, fk, (q : Int)⟩) (bs.map BkR.D) (eraseAt (bs.map BkR.D) (k : Int).toNat) (badD (bs.map BkR.D) (k : Int).toNat) (tornD (bs.map BkR.D) (k : Int).toNat) = (bs.map BkR.D).set k ⟨(List.range 8).map fun i => (⟨decide (i < j), []⟩ : PgD), r.wear + 1, r.bad⟩ := by
                unfold outDs
                rw [if_pos rfl]
                dsimp only
                rw [if_neg e2]
                unfold tornD
                rw [Int.toNat_natCast, List.getElem?_map, HRK.out.1, hj]
                rfl
              rw [e1, hto, show outDown 0 (some ⟨ft, fk, (q : Int)⟩) false = true from (by unfold outDown; rw [if_pos rfl]; dsimp only; rw [if_neg e2]), show outCode 0 (some ⟨ft, fk, (q : Int)⟩) = 10 from (by unfold outCode; rw [if_pos rfl]; dsimp only; rw [if_neg e2])]
              have hH := HH.out
              have hw := HW.out
              have h1 : H + 1 < W0.heap.size := by omega
              have bel : Below w.heap.size w W10 := HB0.out.trans (hbel.mono HB0.out.size)
              have s : ∀ (W : World) (i : Nat) (v : Value), Below w.heap.size w W → Below w.heap.size w (W.setCell ⟨H + 1, i, none⟩ v) := fun W i v hb => hb.setCell (p := ⟨H + 1, i, none⟩) (by simp only; omega) v
              exact ⟨_, _, _, _, _, _, _, rfl, ((((hnd.set_below h1).set_below h1).set_below h1).set_below h1).wider HB0.out.size, hl, s _ _ _ (s _ _ _ (s _ _ _ (s _ _ _ bel)))⟩
            · have hj8i : ¬ (j : Int) < 8 := by omega
              go_upto_region 18 with fail
              obtain ⟨W10, hW10⟩ : ∃ W, wr.setCell ⟨X, 3, none⟩ (.bool true) = W := ⟨_, rfl⟩
              rw [hW10] at zx2 zr2 hnd2 bel2 ⊢
              clear hW10 t2 x3 g3
              have r0 := zr2.cell 0
              have r1 := zr2.cell 1
              have r2 := zr2.cell 2
              have r3 := zr2.cell 3
              have f0 := zr2.frozen 0
              have f1 := zr2.frozen 1
              have f2 := zr2.frozen 2
              have f3 := zr2.frozen 3
              have zf := (((zr2.set 0 (.slice (some ⟨gE, 0, none⟩) nE cE)).set 1 (.int .i64 (ops + 1))).set 2 (.slice fa1 m1 fc1)).set 3 (.bool true)
              have d0 := zf.cell 0
              have d1 := zf.cell 1
              have d2 := zf.cell 2
              have d3 := zf.cell 3
              have y0 := zx2.cell 0
              have y1 := zx2.cell 1
              have y2 := zx2.cell 2
              have y3 := zx2.cell 3
              simp at r0 r1 r2 r3 d0 d1 d2 d3 y0 y1 y2 y3
              have HN : Hid _ := And.intro hnd2 (And.intro hul bel2)
              clear zf hnd2 zx2 zr2 bel2 hul
              go_wp2
              refine bodyPost_ret (v := .tuple #[.agg #[.slice (some ⟨gE, 0, none⟩) nE cE, .int .i64 (ops + 1), .slice fa1 m1 fc1, .bool true], .int .i64 10]) (by simp [results, Tryz.f18, go_sem, d0, d1, d2, d3]) rfl ?_
              obtain ⟨hnd, hl, hbel⟩ := HN.out
              rw [← HGP.out]
              obtain ⟨e1, e2⟩ := HOS.out
              have hj := HJ.out
              have hto : outDs 0 (some ⟨ft, fk, (q : Int)⟩) (bs.map BkR.D) (eraseAt (bs.map BkR.D) (k : Int).toNat) (badD (bs.map BkR.D) (k : Int).toNat) (tornD (bs.map BkR.D) (k : Int).toNat) = (bs.map BkR.D).set k ⟨(List.range 8).map fun i => (⟨decide (i < j), []⟩ : PgD), r.wear + 1, r.bad⟩ := by
                unfold outDs
                rw [if_pos rfl]
                dsimp only
                rw [if_neg e2]
                unfold tornD
                rw [Int.toNat_natCast, List.getElem?_map, HRK.out.1, hj]
                rfl
              rw [e1, hto, show outDown 0 (some ⟨ft, fk, (q : Int)⟩) false = true from (by unfold outDown; rw [if_pos rfl]; dsimp only; rw [if_neg e2]), show outCode 0 (some ⟨ft, fk, (q : Int)⟩) = 10 from (by unfold outCode; rw [if_pos rfl]; dsimp only; rw [if_neg e2])]
              have hH := HH.out
              have hw := HW.out
              have h1 : H + 1 < W0.heap.size := by omega
              have bel : Below w.heap.size w W10 := HB0.out.trans (hbel.mono HB0.out.size)
              have s : ∀ (W : World) (i : Nat) (v : Value), Below w.heap.size w W → Below w.heap.size w (W.setCell ⟨H + 1, i, none⟩ v) := fun W i v hb => hb.setCell (p := ⟨H + 1, i, none⟩) (by simp only; omega) v
              exact ⟨_, _, _, _, _, _, _, rfl, ((((hnd.set_below h1).set_below h1).set_below h1).set_below h1).wider HB0.out.size, hl, s _ _ _ (s _ _ _ (s _ _ _ (s _ _ _ bel)))⟩
  · have hcn : (CD != 0) = true := by simp [hc0]
    have r0 := zr4.cell 0
    have r1 := zr4.cell 1
    have r2 := zr4.cell 2
    have r3 := zr4.cell 3
    have f0 := zr4.frozen 0
    have f1 := zr4.frozen 1
    have f2 := zr4.frozen 2
    have f3 := zr4.frozen 3
    have zf := (((zr4.set 0 (.slice a1 n1 c1)).set 1 (.int .i64 ops)).set 2 (.slice fa1 m1 fc1)).set 3 (.bool down)
    have d0 := zf.cell 0
    have d1 := zf.cell 1
    have d2 := zf.cell 2
    have d3 := zf.cell 3
    have y0 := zX4.cell 0
    have y1 := zX4.cell 1
    have y2 := zX4.cell 2
    have y3 := zX4.cell 3
    simp at r0 r1 r2 r3 d0 d1 d2 d3 y0 y1 y2 y3
    have HN : Hid _ := And.intro hd4 (And.intro hl B4)
    clear zf hd4 zX4 zr4 zH4 B4
    go_wp2
    refine bodyPost_ret (v := .tuple #[.agg #[.slice a1 n1 c1, .int .i64 ops, .slice fa1 m1 fc1, .bool down], .int .i64 CD]) (by simp [results, Tryz.f18, go_sem, d0, d1, d2, d3]) rfl ?_
    obtain ⟨hnd, hl, hbel⟩ := HN.out
    rw [← HGP.out]
    rw [outs_no rfl hc0]
    have hH := HH.out
    have hw := HW.out
    have h1 : H + 1 < W0.heap.size := by omega
    have bel : Below w.heap.size w W4 := HB0.out.trans (hbel.mono HB0.out.size)
    have s : ∀ (W : World) (i : Nat) (v : Value), Below w.heap.size w W → Below w.heap.size w (W.setCell ⟨H + 1, i, none⟩ v) := fun W i v hb => hb.setCell (p := ⟨H + 1, i, none⟩) (by simp only; omega) v
    exact ⟨_, _, _, _, _, _, _, rfl, ((((hnd.set_below h1).set_below h1).set_below h1).set_below h1).wider HB0.out.size, hl, s _ _ _ (s _ _ _ (s _ _ _ (s _ _ _ bel)))⟩
end

section
open Go.RowKit
theorem totB_setK : ∀ (ds : List BkD) (k : Nat) (b' : BkD), totB (ds.set k b') ≤ totB ds + 1 + totP b'.ps
  | [], _, _ => by simp [totB]
  | d :: ds, 0, b' => by rw [List.set_cons_zero, totB_cons, totB_cons]; omega
  | d :: ds, k + 1, b' => by
    have := totB_setK ds k b'
    rw [List.set_cons_succ, totB_cons, totB_cons]
    omega
theorem outE_len (cd : Int) (o : Option FtD) (ds : List BkD) (k : Nat) : (outDs cd o ds (eraseAt ds k) (badD ds k) (tornD ds k)).length = ds.length := by
  have h1 : (eraseAt ds k).length = ds.length := by unfold eraseAt; split <;> simp
  have h2 : (badD ds k).length = ds.length := by unfold badD; split <;> simp
  have h3 : ∀ t, (tornD ds k t).length = ds.length := fun t => by unfold tornD; split <;> simp
  unfold outDs
  split
  · cases o with
    | none => exact h1
    | some f =>
      dsimp only
      split
      · exact h2
      · exact h3 _
  · rfl
theorem outE_tot (cd : Int) (o : Option FtD) (ds : List BkD) (k : Nat) : totB (outDs cd o ds (eraseAt ds k) (badD ds k) (tornD ds k)) ≤ 2 * totB ds + 9 := by
  have h1 : totB (eraseAt ds k) ≤ 2 * totB ds + 9 := by
    unfold eraseAt
    split
    · rename_i b _
      have := totB_setK ds k ⟨List.replicate 8 ⟨false, []⟩, b.wear + 1, b.bad⟩
      have h8 : totP (List.replicate 8 (⟨false, []⟩ : PgD)) = 8 := rfl
      simp only [h8] at this
      omega
    · omega
  have h2 : totB (badD ds k) ≤ 2 * totB ds + 9 := by
    unfold badD
    split
    · rename_i b hb
      have := totB_setK ds k ⟨b.ps, b.wear, true⟩
      have h5 := totB_mem (List.mem_of_getElem? hb)
      dsimp only at this
      omega
    · omega
  have h3 : ∀ t, totB (tornD ds k t) ≤ 2 * totB ds + 9 := fun t => by
    unfold tornD
    split
    · rename_i b _
      have := totB_setK ds k ⟨(List.range 8).map fun i => ⟨decide (i < min t.toNat 8), []⟩, b.wear + 1, b.bad⟩
      have h8 : totP ((List.range 8).map fun i => (⟨decide (i < min t.toNat 8), []⟩ : PgD)) = 8 := by rw [← pgsT_D]; exact totP_T _
      simp only [h8] at this
      omega
    · omega
  unfold outDs
  split
  · cases o with
    | none => exact h1
    | some f =>
      dsimp only
      split
      · exact h2
      · exact h3 _
  · omega
set_option maxRecDepth 100000 in
set_option maxHeartbeats 16000000 in
theorem walkFnExactDevErase (a : Option Addr) (cap : Nat) (bs : List BkR) (ops : Int) (fa : Option Addr) (fc : Nat) (fs : List FtD) (down : Bool) (x0 : Int) (w : World) (hm : bs.length ≤ maxLen) (hi : ∀ r ∈ bs, BkIn r) (hr : RdBs w a bs) (hfm : fs.length ≤ maxLen) (hrf : RdFa w fa fs) (_hwx : (Lit.int .i64 x0).wf = true) (hg : EtCell w) :
    Calls Tryz.prog 4 #[.agg #[.slice a bs.length cap, .int .i64 ops, .slice fa fs.length fc, .bool down], .int .i64 x0] w fun e w' => e = .returned (.bool true) ∧ Below w.heap.size w w' := by
  obtain ⟨n, hn⟩ : ∃ n, bs.length = n := ⟨_, rfl⟩
  obtain ⟨m, hnf⟩ : ∃ m, fs.length = m := ⟨_, rfl⟩
  rw [hn] at hm ⊢
  rw [hnf] at hfm ⊢
  have B0 : Below w.heap.size w (w.alloc (.cells #[.slice a n cap, .int .i64 ops, .slice fa m fc, .bool down] 27)) := (Below.refl _ w).alloc (Nat.le_refl _) _
  have z0 := Blk.new w 27 #[.slice a n cap, .int .i64 ops, .slice fa m fc, .bool down]
  go_enter Tryz.func4, Tryz.ntmps4
  go_wp2_with fail
  obtain ⟨W0, hW0⟩ : ∃ W, w.alloc (.cells #[.slice a n cap, .int .i64 ops, .slice fa m fc, .bool down] 27) = W := ⟨_, rfl⟩
  rw [hW0] at B0 z0 ⊢
  clear hW0
  refine (szDev_w a n cap 1048576 bs ops fa m fc down W0 hn hm hfm (by omega) hi (hr.keep B0)).mono ?_
  rintro e w1 ⟨hsz, b1⟩
  have B1 := B0.trans (b1.mono B0.size)
  have z1 := z0.keep b1
  rcases hsz with rfl | ⟨x, hx, rfl, _⟩
  · go_wp2
    go_ret
    exact ⟨rfl, B1⟩
  have hx0 : ¬ (x : Int) < 0 := by omega
  have htot : Hid (totB (bs.map BkR.D) ≤ 1048576) := by show _ ≤ _; omega
  have hmt : Hid (m ≤ 1048576) := by show _ ≤ _; omega
  have HN : Hid ((bs.map BkR.D).length = n) := by show _ = _; simp [hn]
  have HRA : Hid (∀ W : World, Below w.heap.size w W → CR W a n bs ∧ FR W fa m fs) := fun W h => ⟨⟨hn, htot.out, hr.keep h⟩, ⟨hnf, hmt.out, hrf.keep h⟩⟩
  have CA : Hid (∀ (W : World), CR W a n bs ∧ FR W fa m fs → _) := fun (W : World) (h : CR W a n bs ∧ FR W fa m fs) => toDev_any a n cap bs ops fa m fc fs down W h.1 h.2
  have HCF : Hid (∀ (W : World) (B g g' : Nat) (ts : List BkR), NewDv W B (some ⟨g, 0, none⟩) n n (some ⟨g', 0, none⟩) m m (bs.map BkR.D) fs ts → CR W (some ⟨g, 0, none⟩) n ts ∧ FR W (some ⟨g', 0, none⟩) m fs) := fun W B g g' ts h => ⟨⟨by rw [h.bs.len, HN.out], by rw [h.bs.D]; exact htot.out, h.bs.rd⟩, OwnFa.fr h.fs hmt.out⟩
  obtain ⟨dE, hdE⟩ : ∃ d, outDs (evCode (bs.map BkR.D) ops fs down (codeE true (bs.map BkR.D) x0)) (faD ops fs) (bs.map BkR.D) (eraseAt (bs.map BkR.D) x0.toNat) (badD (bs.map BkR.D) x0.toNat) (tornD (bs.map BkR.D) x0.toNat) = d := ⟨_, rfl⟩
  obtain ⟨oE, hoE⟩ : ∃ d, outOps (evCode (bs.map BkR.D) ops fs down (codeE true (bs.map BkR.D) x0)) ops = d := ⟨_, rfl⟩
  obtain ⟨wE, hwE⟩ : ∃ d, outDown (evCode (bs.map BkR.D) ops fs down (codeE true (bs.map BkR.D) x0)) (faD ops fs) down = d := ⟨_, rfl⟩
  obtain ⟨code, hcode⟩ : ∃ c, outCode (evCode (bs.map BkR.D) ops fs down (codeE true (bs.map BkR.D) x0)) (faD ops fs) = c := ⟨_, rfl⟩
  have HE : Hid (dE.length = n) := by show _ = _; rw [← hdE, outE_len]; exact HN.out
  have HT : Hid (totB dE ≤ 2097200) := by show _ ≤ _; rw [← hdE]; refine Nat.le_trans (outE_tot _ _ _ _) ?_; have := htot.out; omega
  have cS : ∀ (W : World) (B g g' : Nat) (ts : List BkR), NewDv W B (some ⟨g, 0, none⟩) n n (some ⟨g', 0, none⟩) m m (bs.map BkR.D) fs ts → Calls Tryz.prog 18 #[.agg #[.slice (some ⟨g, 0, none⟩) n n, .int .i64 ops, .slice (some ⟨g', 0, none⟩) m m, .bool down], .int .i64 x0] W fun e w' => ∃ a c fa fc qs, e = .returned (.tuple #[.agg #[.slice a n c, .int .i64 oE, .slice fa m fc, .bool wE], .int .i64 code]) ∧ NewDv w' W.heap.size a n c fa m fc dE fs qs ∧ Below W.heap.size W w' := fun W B g g' ts h => by
    have := devErS (some ⟨g, 0, none⟩) n n ts ops (some ⟨g', 0, none⟩) m m fs down x0 W (HCF.out W B g g' ts h).1 (HCF.out W B g g' ts h).2
    rw [h.bs.D, hdE] at this
    exact this.mono fun e w' hA => by
      obtain ⟨a, k, c, fa, j, fc, qs, e1, e2, e3, e4⟩ := hA
      have hk : k = n := by rw [← e3, e2.bs.len, HE.out]
      have hj : j = m := by rw [← OwnE.len e2.fs, hnf]
      subst hk hj
      dsimp only at e1 e2
      rw [hoE, hwE, hcode] at e1
      exact ⟨a, c, fa, fc, qs, e1, e2, e4⟩
  have cI : ∀ (W : World) (B g g' : Nat) (ts : List BkR), EtCell W → NewDv W B (some ⟨g, 0, none⟩) n n (some ⟨g', 0, none⟩) m m (bs.map BkR.D) fs ts → Calls Tryz.prog 19 #[.agg #[.slice (some ⟨g, 0, none⟩) n n, .int .i64 ops, .slice (some ⟨g', 0, none⟩) m m, .bool down], .int .i64 x0] W fun e w' => ∃ a c fa fc qs, e = .returned (.tuple #[.agg #[.slice a n c, .int .i64 oE, .slice fa m fc, .bool wE], .int .i64 code]) ∧ NewDv w' W.heap.size a n c fa m fc dE fs qs ∧ Below W.heap.size W w' := fun W B g g' ts hE h => by
    have := devErI (some ⟨g, 0, none⟩) n n ts ops (some ⟨g', 0, none⟩) m m fs down x0 W (HCF.out W B g g' ts h).1 (HCF.out W B g g' ts h).2 hE
    rw [h.bs.D, hdE] at this
    exact this.mono fun e w' hA => by
      obtain ⟨a, k, c, fa, j, fc, qs, e1, e2, e3, e4⟩ := hA
      have hk : k = n := by rw [← e3, e2.bs.len, HE.out]
      have hj : j = m := by rw [← OwnE.len e2.fs, hnf]
      subst hk hj
      dsimp only at e1 e2
      rw [hoE, hwE, hcode] at e1
      exact ⟨a, c, fa, fc, qs, e1, e2, e4⟩
  have hcb : Hid (∀ ts : List BkR, ts.map BkR.D = bs.map BkR.D → 1 + cBs ts + 3 * m ≤ 9999990) := fun ts h => by
    have := cBs_le ts
    rw [h] at this
    have h2 := htot.out
    have h3 := hmt.out
    omega
  have hcbE : Hid (∀ ts : List BkR, ts.map BkR.D = dE → 1 + cBs ts + 3 * m ≤ 9999990) := fun ts h => by
    have := cBs_le ts
    rw [h] at this
    have h2 := HT.out
    have h3 := hmt.out
    omega
  have CS : Hid _ := cS
  have CI : Hid _ := cI
  have HG : Hid (EtCell w) := hg
  have hoo : (code != code) = false := by simp
  clear cS cI hr hn hi hm B0 z0 b1 hdE hoE hwE hnf hrf hcode hg
  have q0 := (z1).cell 0
  have q1 := (z1).cell 1
  have q2 := (z1).cell 2
  have q3 := (z1).cell 3
  simp at q0 q1 q2 q3
  obtain ⟨G0, hG0⟩ : ∃ G, w.heap.size = G := ⟨_, rfl⟩
  have hG0' : Hid (w.heap.size = G0) := hG0
  rw [hG0] at z1 q0 q1 q2 q3 ⊢
  go_wp2_with fail
  refine (CA.out w1 (HRA.out _ B1)).mono ?_
  rintro e w2 ⟨gA, hA, tA, rfl, qA, b2⟩
  have B2 := B1.trans (b2.mono B1.size)
  have z2 := z1.keep b2
  have hz2 := z2.lt
  clear q0 q1 q2 q3 z1 b2
  go_wp2_with fail
  refine (CS.out w2 _ gA hA tA qA).mono ?_
  rintro e w3 ⟨aS, cpS, fS, kS, tS, rfl, qS, b3⟩
  have B3 := B2.trans (b3.mono B2.size)
  have z3 := z2.keep b3
  have b3' : Below w3.heap.size w3 (w3.alloc (.cells #[.slice aS n cpS, .int .i64 oE, .slice fS m kS, .bool wE] 35)) := (Below.refl _ w3).alloc (Nat.le_refl _) _
  have s3 := Blk.new w3 35 #[.slice aS n cpS, .int .i64 oE, .slice fS m kS, .bool wE]
  have q0 := (z3.keep b3').cell 0
  have q1 := (z3.keep b3').cell 1
  have q2 := (z3.keep b3').cell 2
  have q3 := (z3.keep b3').cell 3
  simp at q0 q1 q2 q3
  clear qA z2 b3
  go_wp2_with fail
  obtain ⟨W3, hW3⟩ : ∃ W, w3.alloc (.cells #[.slice aS n cpS, .int .i64 oE, .slice fS m kS, .bool wE] 35) = W := ⟨_, rfl⟩
  rw [hW3] at b3' s3 q0 q1 q2 q3 ⊢
  clear hW3
  obtain ⟨GS, hGS⟩ : ∃ G, w3.heap.size = G := ⟨_, rfl⟩
  have hSl : Hid (∀ g ∈ fpDv aS n cpS fS m kS tS, G0 < g ∧ g < GS) := fun g hg => by
    have h1 := qS.from g hg
    have h2 := qS.lt g hg
    exact ⟨by omega, by omega⟩
  rw [hGS] at s3 ⊢
  have hG0S : G0 < GS := by have := z3.lt; omega
  have B3' := B3.trans (b3'.mono B3.size)
  have z3' := z3.keep b3'
  have qS3 := qS.keep b3'
  have hGS3 := s3.lt
  clear qS z3 b3' B3 hGS
  refine (CA.out W3 (HRA.out _ B3')).mono ?_
  rintro e w4 ⟨gB, hB, tB, rfl, qB, b4⟩
  have B4 := B3'.trans (b4.mono B3'.size)
  have z4 := z3'.keep b4
  have s4 := s3.keep b4
  have qS4 := qS3.keep b4
  have b5 : Below w4.heap.size w4 (w4.alloc (.cells #[.slice (some ⟨gB, 0, none⟩) n n, .int .i64 ops, .slice (some ⟨hB, 0, none⟩) m m, .bool down] 35)) := (Below.refl _ w4).alloc (Nat.le_refl _) _
  have m5 := Blk.new w4 35 #[.slice (some ⟨gB, 0, none⟩) n n, .int .i64 ops, .slice (some ⟨hB, 0, none⟩) m m, .bool down]
  clear q0 q1 q2 q3 z3' b4 qS3 s3 B3'
  go_wp2_with fail
  obtain ⟨W5, hW5⟩ : ∃ W, w4.alloc (.cells #[.slice (some ⟨gB, 0, none⟩) n n, .int .i64 ops, .slice (some ⟨hB, 0, none⟩) m m, .bool down] 35) = W := ⟨_, rfl⟩
  rw [hW5] at b5 m5 ⊢
  clear hW5
  obtain ⟨G4, hG4⟩ : ∃ G, w4.heap.size = G := ⟨_, rfl⟩
  have hBl : Hid (∀ g ∈ fpDv (some ⟨gB, 0, none⟩) n n (some ⟨hB, 0, none⟩) m m tB, GS < g ∧ g < G4) := fun g hg => by
    have h1 := qB.from g hg
    have h2 := qB.lt g hg
    exact ⟨by omega, by omega⟩
  rw [hG4] at m5 ⊢
  have hGS4 : GS < G4 := by have := s4.lt; omega
  have B5 := B4.trans (b5.mono B4.size)
  have z5 := z4.keep b5
  have s5 := s4.keep b5
  have qS5 := qS4.keep b5
  have qB5 := qB.keep b5
  have hG45 := m5.lt
  clear qB z4 s4 b5 qS4 B4 hG4
  refine (CI.out W5 _ gB hB tB (HG.out.keep B5) qB5).mono ?_
  rintro e w6 ⟨aI, cpI, fI, kI, tI, rfl, qI, b6⟩
  have B6 := B5.trans (b6.mono B5.size)
  have z6 := z5.keep b6
  have s6 := s5.keep b6
  have m6 := m5.keep b6
  have qB6 := qB5.keep b6
  have qS6 := qS5.keep b6
  have b6' : Below w6.heap.size w6 (w6.alloc (.cells #[.slice aI n cpI, .int .i64 oE, .slice fI m kI, .bool wE] 35)) := (Below.refl _ w6).alloc (Nat.le_refl _) _
  have i6 := Blk.new w6 35 #[.slice aI n cpI, .int .i64 oE, .slice fI m kI, .bool wE]
  have sx0 := (s6.keep b6').cell 0
  have sx1 := (s6.keep b6').cell 1
  have sx2 := (s6.keep b6').cell 2
  have sx3 := (s6.keep b6').cell 3
  simp at sx0 sx1 sx2 sx3
  clear qB5 z5 m5 b6 qS5 s5 B5
  go_wp2_with fail
  obtain ⟨W6, hW6⟩ : ∃ W, w6.alloc (.cells #[.slice aI n cpI, .int .i64 oE, .slice fI m kI, .bool wE] 35) = W := ⟨_, rfl⟩
  rw [hW6] at b6' i6 sx0 sx1 sx2 sx3 ⊢
  clear hW6 sx0 sx1 sx2 sx3
  obtain ⟨GI, hGI⟩ : ∃ G, w6.heap.size = G := ⟨_, rfl⟩
  have hIl : Hid (∀ g ∈ fpDv aI n cpI fI m kI tI, G4 < g ∧ g < GI) := fun g hg => by
    have h1 := qI.from g hg
    have h2 := qI.lt g hg
    exact ⟨by omega, by omega⟩
  rw [hGI] at i6 ⊢
  have hG4I : G4 < GI := by have := m6.lt; omega
  have B6' := B6.trans (b6'.mono B6.size)
  have z6' := z6.keep b6'
  have s6' := s6.keep b6'
  have m6' := m6.keep b6'
  have qB6' := qB6.keep b6'
  have qS6' := qS6.keep b6'
  have qI6' := qI.keep b6'
  clear qB6 z6 m6 b6' qS6 s6 B6 qI hGI
  refine (eqDv oE wE HE.out (Nat.le_trans HT.out (by omega)) hmt.out qI6' qS6').mono ?_
  rintro e w7 ⟨rfl, b7⟩
  have B7 := B6'.trans (b7.mono B6'.size)
  have z7 := z6'.keep b7
  have s7 := s6'.keep b7
  have m7 := m6'.keep b7
  have i7 := i6.keep b7
  have qB7 := qB6'.keep b7
  have qS7 := qS6'.keep b7
  have qI7 := qI6'.keep b7
  clear qB6' z6' m6' b7 qS6' s6' B6' qI6' i6
  have q0 := z7.cell 0
  have q1 := z7.cell 1
  have q2 := z7.cell 2
  have q3 := z7.cell 3
  have p0 := m7.cell 0
  have p1 := m7.cell 1
  have p2 := m7.cell 2
  have p3 := m7.cell 3
  simp at q0 q1 q2 q3 p0 p1 p2 p3
  have r7 := HRA.out _ B7.drew
  have b7d := (Below.refl w7.heap.size w7).drew
  have qB7d := qB7.keep b7d
  have m7d := m7.keep b7d
  have HC7 : Hid (NewDv w7.drew W3.heap.size (some ⟨gB, 0, none⟩) n n (some ⟨hB, 0, none⟩) m m (bs.map BkR.D) fs tB ∧ NewDv w7.drew w2.heap.size aS n cpS fS m kS dE fs tS ∧ NewDv w7.drew W5.heap.size aI n cpI fI m kI dE fs tI ∧ Blk w7.drew G0 27 #[.slice a n cap, .int .i64 ops, .slice fa m fc, .bool down] ∧ Blk w7.drew GS 35 #[.slice aS n cpS, .int .i64 oE, .slice fS m kS, .bool wE] ∧ Blk w7.drew G4 35 #[.slice (some ⟨gB, 0, none⟩) n n, .int .i64 ops, .slice (some ⟨hB, 0, none⟩) m m, .bool down] ∧ Blk w7.drew GI 35 #[.slice aI n cpI, .int .i64 oE, .slice fI m kI, .bool wE] ∧ Below w.heap.size w w7.drew) := ⟨qB7d, qS7.keep b7d, qI7.keep b7d, z7.keep b7d, s7.keep b7d, m7d, i7.keep b7d, B7.drew⟩
  clear qB7 z7 m7 b7d B7 qS7 qI7 s7 i7
  go_wp2
  go_region_with (first
    | (go_at_call 10; (with_reducible refine (CA.out _ r7).mono ?_); rintro e wA ⟨gC, hC, tC, rfl, qC, b9⟩; have qAA := qB7d.keep b9; have t0 := (m7d.keep b9).cell 0; have t1 := (m7d.keep b9).cell 1; have t2 := (m7d.keep b9).cell 2; have t3 := (m7d.keep b9).cell 3; simp at t0 t1 t2 t3)
    | (go_at_call 13; refine (eqDv ops down HN.out (Nat.le_trans htot.out (by omega)) hmt.out qAA qC).mono ?_; rintro e w8 ⟨rfl, b10⟩))
  all_goals
    have b11 := b9.trans (b10.mono b9.size)
    obtain ⟨qB8, qS8, qI8, z8, s8, m8, i8, B8⟩ := HC7.out
    replace qB8 := qB8.keep b11
    replace qS8 := qS8.keep b11
    replace qI8 := qI8.keep b11
    replace z8 := z8.keep b11
    replace s8 := s8.keep b11
    replace m8 := m8.keep b11
    replace i8 := i8.keep b11
    replace B8 := B8.trans (b11.mono B8.size)
    clear b9 b10 b11 qC qAA r7 qB7d m7d q0 q1 q2 q3 p0 p1 p2 p3 HC7
    try clear t0 t1 t2 t3
    have p0 := m8.cell 0
    have p1 := m8.cell 1
    have p2 := m8.cell 2
    have p3 := m8.cell 3
    simp at p0 p1 p2 p3
    go_wp2_with fail
    have hcbo := hcb.out tB qB8.bs.D
    refine (markDv_any ops down hcbo qB8).mono ?_
    rintro e w9 ⟨rfl, _, sv9⟩
    have qS9 := qS8.svs sv9 (fun g hg hf => by have := hSl.out g hg; have := hBl.out g hf; omega)
    have qI9 := qI8.svs sv9 (fun g hg hf => by have := hIl.out g hg; have := hBl.out g hf; omega)
    have z9 := Blk.svs z8 sv9 (fun hf => by have := hBl.out G0 hf; omega)
    have s9 := Blk.svs s8 sv9 (fun hf => by have := hBl.out GS hf; omega)
    have i9 := Blk.svs i8 sv9 (fun hf => by have := hBl.out GI hf; omega)
    have B9 : Below w.heap.size w w9 := Below.svs B8 sv9 (fun g hg => by have := hBl.out g hg; have := hG0'.out; omega) (Nat.le_refl _)
    obtain ⟨Q, hQ⟩ : ∃ Q, 1 + cBs tB + 3 * m = Q := ⟨_, rfl⟩
    rw [hQ]
    have hQ0 : ¬ (Q : Int) < 0 := by omega
    clear hQ hcbo sv9 qS8 qI8 z8 s8 m8 i8 B8 qB8 p0 p1 p2 p3
    have sx0 := s9.cell 0
    have sx1 := s9.cell 1
    have sx2 := s9.cell 2
    have sx3 := s9.cell 3
    have i0 := i9.cell 0
    have i1 := i9.cell 1
    have i2 := i9.cell 2
    have i3 := i9.cell 3
    simp at sx0 sx1 sx2 sx3 i0 i1 i2 i3
    go_wp2_with fail
    refine (eqDv oE wE HE.out (Nat.le_trans HT.out (by omega)) hmt.out qI9 qS9).mono ?_
    rintro e w10 ⟨rfl, b10⟩
    have qS10 := qS9.keep b10
    have qI10 := qI9.keep b10
    have z10 := z9.keep b10
    have s10 := s9.keep b10
    have i10 := i9.keep b10
    have B10 := B9.trans (b10.mono B9.size)
    clear qS9 qI9 z9 s9 i9 B9 b10 sx0 sx1 sx2 sx3 i0 i1 i2 i3
    have i0 := i10.cell 0
    have i1 := i10.cell 1
    have i2 := i10.cell 2
    have i3 := i10.cell 3
    simp at i0 i1 i2 i3
    have hcbI := hcbE.out tI qI10.bs.D
    go_wp2_with fail
    refine (markDv_any oE wE hcbI qI10).mono ?_
    rintro e w11 ⟨rfl, oI, sv11⟩
    have qS11 := qS10.svs sv11 (fun g hg hf => by have := hSl.out g hg; have := hIl.out g hf; omega)
    have z11 := Blk.svs z10 sv11 (fun hf => by have := hIl.out G0 hf; omega)
    have s11 := Blk.svs s10 sv11 (fun hf => by have := hIl.out GS hf; omega)
    have i11 := Blk.svs i10 sv11 (fun hf => by have := hIl.out GI hf; omega)
    have B11 : Below w.heap.size w w11 := Below.svs B10 sv11 (fun g hg => by have := hIl.out g hg; have := hG0'.out; omega) (Nat.le_refl _)
    obtain ⟨M, hM⟩ : ∃ M, 1 + cBs tI + 3 * m = M := ⟨_, rfl⟩
    have CH : Hid (∀ W : World, MkDv W (.slice aI n cpI) m kI fI tI → Calls Tryz.prog 17 #[.agg #[.slice aI n cpI, .int .i64 oE, .slice fI m kI, .bool wE], .int .i64 1] W fun e w' => e = .returned (.int .i64 (M : Int)) ∧ Below W.heap.size W w') := fun W h => heldDv_any oE wE M hM hcbI h
    rw [hM]
    have hM0 : ¬ (M : Int) < 0 := by omega
    have hMM : ((M : Int) != (M : Int)) = false := by simp
    clear hM hcbI sv11 qS10 qI10 z10 s10 i10 B10 i0 i1 i2 i3
    have i0 := i11.cell 0
    have i1 := i11.cell 1
    have i2 := i11.cell 2
    have i3 := i11.cell 3
    simp at i0 i1 i2 i3
    go_wp2_with fail
    refine (CH.out w11 oI).mono ?_
    rintro e w12 ⟨rfl, b12⟩
    have qS12 := qS11.keep b12
    have oI12 := oI.keep b12
    have z12 := z11.keep b12
    have s12 := s11.keep b12
    have i12 := i11.keep b12
    have B12 := B11.trans (b12.mono B11.size)
    clear qS11 oI z11 s11 i11 B11 b12 i0 i1 i2 i3
    have q0 := z12.cell 0
    have q1 := z12.cell 1
    have q2 := z12.cell 2
    have q3 := z12.cell 3
    simp at q0 q1 q2 q3
    go_wp2_with fail
    refine (CA.out w12 (HRA.out _ B12)).mono ?_
    rintro e w13 ⟨gD, hD, tD, rfl, qD, b13⟩
    have qS13 := qS12.keep b13
    have oI13 := oI12.keep b13
    have s13 := s12.keep b13
    have i13 := i12.keep b13
    have B13 := B12.trans (b13.mono B12.size)
    clear qS12 oI12 z12 s12 i12 B12 b13 q0 q1 q2 q3
    go_wp2_with fail
    refine (CI.out w13 _ gD hD tD (HG.out.keep B13) qD).mono ?_
    rintro e w14 ⟨aJ, cpJ, fJ, kJ, tJ, rfl, qJ, b14⟩
    have qS14 := qS13.keep b14
    have oI14 := oI13.keep b14
    have s14 := s13.keep b14
    have i14 := i13.keep b14
    have B14 := B13.trans (b14.mono B13.size)
    have b15 : Below w14.heap.size w14 (w14.alloc (.cells #[.slice aJ n cpJ, .int .i64 oE, .slice fJ m kJ, .bool wE] 35)) := (Below.refl _ w14).alloc (Nat.le_refl _) _
    have sx0 := (s14.keep b15).cell 0
    have sx1 := (s14.keep b15).cell 1
    have sx2 := (s14.keep b15).cell 2
    have sx3 := (s14.keep b15).cell 3
    simp at sx0 sx1 sx2 sx3
    clear qS13 oI13 s13 i13 B13 b14 qD
    go_wp2_with fail
    obtain ⟨W15, hW15⟩ : ∃ W, w14.alloc (.cells #[.slice aJ n cpJ, .int .i64 oE, .slice fJ m kJ, .bool wE] 35) = W := ⟨_, rfl⟩
    rw [hW15] at b15 sx0 sx1 sx2 sx3 ⊢
    clear hW15 sx0 sx1 sx2 sx3
    have qS15 := qS14.keep b15
    have qJ15 := qJ.keep b15
    have oI15 := oI14.keep b15
    have i15 := i14.keep b15
    have B15 := B14.trans (b15.mono B14.size)
    clear qS14 qJ oI14 s14 i14 B14 b15
    refine (eqDv oE wE HE.out (Nat.le_trans HT.out (by omega)) hmt.out qJ15 qS15).mono ?_
    rintro e w16 ⟨rfl, b16⟩
    have oI16 := oI15.keep b16
    have i16 := i15.keep b16
    have B16 := B15.trans (b16.mono B15.size)
    clear qS15 qJ15 oI15 i15 B15 b16
    have i0 := i16.cell 0
    have i1 := i16.cell 1
    have i2 := i16.cell 2
    have i3 := i16.cell 3
    simp at i0 i1 i2 i3
    go_wp2_with fail
    refine (CH.out w16 oI16).mono ?_
    rintro e w17 ⟨rfl, b17⟩
    have B17 := B16.trans (b17.mono B16.size)
    clear oI16 i16 B16 b17 i0 i1 i2 i3
    go_wp2
    go_ret
    rw [← hG0'.out]
    exact ⟨rfl, B17⟩
end
end Go.Proofs.YtkhgafmhbibikaaGreatDoor
