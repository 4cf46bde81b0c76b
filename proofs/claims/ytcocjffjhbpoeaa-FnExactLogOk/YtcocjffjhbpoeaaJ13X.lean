/-
  Joined: DvT, LogM.
-/
import Derived.Test.YtcocjffjhbpoeaaJ11X
import Derived.Test.YtcocjffjhbpoeaaJ12X
namespace Go.Proofs.Ytcocjffjhbpoeaa
section
open Go.RowKit
/-- A device of the call's own, new since B. -/
structure NewDv (w : World) (B : Nat) (a : Option Addr) (n c : Nat) (fa : Option Addr) (m fc : Nat) (ds : List BkD) (fs : List FtD) (qs : List BkR) : Prop where
  bs : NewBs w B (.slice a n c) ds qs
  fs : OwnFa w (.slice fa m fc) m fs
  new : ∀ g, (Value.slice fa m fc).ownBlock = some g → B ≤ g ∧ g ∉ fpBs (.slice a n c) qs
/-- The blocks of memory that it takes. -/
def fpDv (a : Option Addr) (n c : Nat) (fa : Option Addr) (m fc : Nat) (qs : List BkR) : List Nat := fpBs (.slice a n c) qs ++ (Value.slice fa m fc).ownBlock.toList
theorem fpDv_bs {a : Option Addr} {n c : Nat} {fa : Option Addr} {m fc : Nat} {qs : List BkR} {g : Nat} (h : g ∈ fpBs (.slice a n c) qs) : g ∈ fpDv a n c fa m fc qs := List.mem_append_left _ h
theorem fpDv_fs {a : Option Addr} {n c : Nat} {fa : Option Addr} {m fc : Nat} {qs : List BkR} {g : Nat} (h : (Value.slice fa m fc).ownBlock = some g) : g ∈ fpDv a n c fa m fc qs := List.mem_append_right _ (by simp [h])
theorem NewDv.keep {w w' : World} {B n c m fc : Nat} {a fa : Option Addr} {ds : List BkD} {fs : List FtD} {qs : List BkR} (h : NewDv w B a n c fa m fc ds fs qs) (hb : Below w.heap.size w w') : NewDv w' B a n c fa m fc ds fs qs := ⟨h.bs.keep hb, OwnE.keep h.fs hb, h.new⟩
theorem NewDv.lt {w : World} {B n c m fc : Nat} {a fa : Option Addr} {ds : List BkD} {fs : List FtD} {qs : List BkR} (h : NewDv w B a n c fa m fc ds fs qs) : ∀ g ∈ fpDv a n c fa m fc qs, g < w.heap.size := fun g hg => by
  rcases List.mem_append.1 hg with h1 | h1
  · exact h.bs.own.lt g h1
  · exact OwnE.lt h.fs (by simpa using h1)
theorem NewDv.from {w : World} {B n c m fc : Nat} {a fa : Option Addr} {ds : List BkD} {fs : List FtD} {qs : List BkR} (h : NewDv w B a n c fa m fc ds fs qs) : ∀ g ∈ fpDv a n c fa m fc qs, B ≤ g := fun g hg => by
  rcases List.mem_append.1 hg with h1 | h1
  · exact h.bs.new g h1
  · exact (h.new g (by simpa using h1)).1
theorem NewDv.svs {w w' : World} {B n c m fc : Nat} {a fa : Option Addr} {ds : List BkD} {fs : List FtD} {qs : List BkR} {F : List Nat} (h : NewDv w B a n c fa m fc ds fs qs) (k : Sv F w w') (hd : ∀ g ∈ fpDv a n c fa m fc qs, g ∉ F) : NewDv w' B a n c fa m fc ds fs qs :=
  ⟨h.bs.svs k fun g hg => hd g (fpDv_bs hg), OwnE.block h.fs fun g hg => k.block g (OwnE.lt h.fs hg) (hd g (fpDv_fs hg)), h.new⟩
theorem NewDv.wider {w : World} {B B' n c m fc : Nat} {a fa : Option Addr} {ds : List BkD} {fs : List FtD} {qs : List BkR} (h : NewDv w B a n c fa m fc ds fs qs) (hB : B' ≤ B) : NewDv w B' a n c fa m fc ds fs qs := ⟨h.bs.wider hB, h.fs, fun g hg => ⟨Nat.le_trans hB (h.new g hg).1, (h.new g hg).2⟩⟩
theorem NewDv.set_below {W : World} {B n c m fc j i : Nat} {a fa : Option Addr} {ds : List BkD} {fs : List FtD} {qs : List BkR} {u : Value} (h : NewDv W B a n c fa m fc ds fs qs) (hj : j < B) : NewDv (W.setCell ⟨j, i, none⟩ u) B a n c fa m fc ds fs qs :=
  ⟨h.bs.set_below hj, OwnE.block h.fs fun g hg => Below.heap_setCell _ _ _ _ (by have := (h.new g hg).1; show g ≠ j; omega), h.new⟩
theorem OwnFa.fr {w : World} {a : Option Addr} {c m : Nat} {fs : List FtD} (h : OwnFa w (.slice a m c) m fs) (hm : m ≤ 1048576) : FR w a m fs := ⟨OwnE.len h, hm, h.rd⟩
set_option maxHeartbeats 3200000 in
theorem toDev_any (a : Option Addr) (n cap : Nat) (bs : List BkR) (ops : Int) (fa : Option Addr) (m fc : Nat) (fs : List FtD) (down : Bool) (w : World) (ht : CR w a n bs) (hf : FR w fa m fs) :
    Calls Try.prog 29 #[.agg #[.slice a n cap, .int .i64 ops, .slice fa m fc, .bool down]] w fun e w' => ∃ g g' qs, e = .returned (.agg #[.slice (some ⟨g, 0, none⟩) n n, .int .i64 ops, .slice (some ⟨g', 0, none⟩) m m, .bool down]) ∧ NewDv w' w.heap.size (some ⟨g, 0, none⟩) n n (some ⟨g', 0, none⟩) m m (bs.map BkR.D) fs qs ∧ Below w.heap.size w w' := by
  have B0 : Below w.heap.size w (((w.alloc (.cells #[.slice a n cap, .int .i64 ops, .slice fa m fc, .bool down] 27)).alloc (.cells #[.slice none 0 0, .int .i64 0, .slice none 0 0, .bool false] 37)).alloc (.cells #[.slice none 0 0, .int .i64 0, .slice none 0 0, .bool false] 37)) := (((Below.refl _ w).alloc (Nat.le_refl _) _).alloc (by simp) _).alloc (by simp; omega) _
  obtain ⟨H, hH⟩ : ∃ H, w.heap.size = H := ⟨_, rfl⟩
  have z0 : Blk (((w.alloc (.cells #[.slice a n cap, .int .i64 ops, .slice fa m fc, .bool down] 27)).alloc (.cells #[.slice none 0 0, .int .i64 0, .slice none 0 0, .bool false] 37)).alloc (.cells #[.slice none 0 0, .int .i64 0, .slice none 0 0, .bool false] 37)) w.heap.size 27 #[.slice a n cap, .int .i64 ops, .slice fa m fc, .bool down] := ((Blk.new w 27 _).alloc _).alloc _
  have z1 := (Blk.new (w.alloc (.cells #[.slice a n cap, .int .i64 ops, .slice fa m fc, .bool down] 27)) 37 #[.slice none 0 0, .int .i64 0, .slice none 0 0, .bool false]).alloc (.cells #[.slice none 0 0, .int .i64 0, .slice none 0 0, .bool false] 37)
  have z2 := Blk.new ((w.alloc (.cells #[.slice a n cap, .int .i64 ops, .slice fa m fc, .bool down] 27)).alloc (.cells #[.slice none 0 0, .int .i64 0, .slice none 0 0, .bool false] 37)) 37 #[.slice none 0 0, .int .i64 0, .slice none 0 0, .bool false]
  have hs0 : (((w.alloc (.cells #[.slice a n cap, .int .i64 ops, .slice fa m fc, .bool down] 27)).alloc (.cells #[.slice none 0 0, .int .i64 0, .slice none 0 0, .bool false] 37)).alloc (.cells #[.slice none 0 0, .int .i64 0, .slice none 0 0, .bool false] 37)).heap.size = w.heap.size + 1 + 1 + 1 := by simp
  simp only [World.size_alloc] at z1 z2
  obtain ⟨W0, hW0⟩ : ∃ W, ((w.alloc (.cells #[.slice a n cap, .int .i64 ops, .slice fa m fc, .bool down] 27)).alloc (.cells #[.slice none 0 0, .int .i64 0, .slice none 0 0, .bool false] 37)).alloc (.cells #[.slice none 0 0, .int .i64 0, .slice none 0 0, .bool false] 37) = W := ⟨_, rfl⟩
  rw [hW0] at B0 z0 z1 z2 hs0
  have hcall := toChip_any a n cap bs W0 ht.len ht.tot (ht.rd.keep B0)
  have HF : Hid (FR w fa m fs) := hf
  rw [hH] at z0 z1 z2 hs0 B0
  rw [hs0] at hcall
  have x0 := z0.cell 0
  simp at x0
  have HB : Hid _ := B0
  clear ht B0 hf
  go_enter Try.func29, Try.ntmps29
  go_wp2_with fail
  refine hcall.mono ?_
  rintro e w1 ⟨g, qs, rfl, ho, hb1⟩
  have B2 := HB.out.trans (hb1.mono (by omega))
  have hw1 : H + 1 + 1 + 1 ≤ w1.heap.size := by have := hb1.size; omega
  have t0 := z0.keep (by rw [hs0]; exact hb1)
  have t1 := z1.keep (by rw [hs0]; exact hb1)
  have t2 := z2.keep (by rw [hs0]; exact hb1)
  clear z0 z1 z2 hb1 hcall x0
  have a1 := t0.cell 1
  have c0 := t2.cell 0
  have c1 := t2.cell 1
  have f0 := t2.frozen 0
  have f1 := t2.frozen 1
  have u0 := (t0.other (B' := H + 1 + 1) (by omega) 0 (.slice (some ⟨g, 0, none⟩) n n)).other (B' := H + 1 + 1) (by omega) 1 (.int .i64 ops)
  have u1 := (t1.other (B' := H + 1 + 1) (by omega) 0 (.slice (some ⟨g, 0, none⟩) n n)).other (B' := H + 1 + 1) (by omega) 1 (.int .i64 ops)
  have u2 := (t2.set 0 (.slice (some ⟨g, 0, none⟩) n n)).set 1 (.int .i64 ops)
  have a2 := u0.cell 2
  simp at a1 a2 c0 c1 u2
  have hsz1 : ((w1.setCell ⟨H + 1 + 1, 0, none⟩ (.slice (some ⟨g, 0, none⟩) n n)).setCell ⟨H + 1 + 1, 1, none⟩ (.int .i64 ops)).heap.size = w1.heap.size := by rw [size_setC, size_setC]
  have B3 : Below H w ((w1.setCell ⟨H + 1 + 1, 0, none⟩ (.slice (some ⟨g, 0, none⟩) n n)).setCell ⟨H + 1 + 1, 1, none⟩ (.int .i64 ops)) := (B2.setCell (p := ⟨H + 1 + 1, 0, none⟩) (by simp only; omega) _).setCell (p := ⟨H + 1 + 1, 1, none⟩) (by simp only; omega) _
  have ho1 := (ho.set_below (j := H + 1 + 1) (i := 0) (u := .slice (some ⟨g, 0, none⟩) n n) (by omega)).set_below (j := H + 1 + 1) (i := 1) (u := .int .i64 ops) (by omega)
  have hcall2 := toFaultS_any fa m fc fs ((w1.setCell ⟨H + 1 + 1, 0, none⟩ (.slice (some ⟨g, 0, none⟩) n n)).setCell ⟨H + 1 + 1, 1, none⟩ (.int .i64 ops)) (HF.out.keep (by rw [hH]; exact B3))
  have HO : Hid _ := ho1
  have HB3 : Hid _ := B3
  rw [hsz1] at hcall2
  clear ho ho1 B2 B3 t0 t1 t2 HB
  go_wp2_with fail
  refine hcall2.mono ?_
  rintro e w2 ⟨rfl, hfo, hb2⟩
  have hb2' : Below ((w1.setCell ⟨H + 1 + 1, 0, none⟩ (.slice (some ⟨g, 0, none⟩) n n)).setCell ⟨H + 1 + 1, 1, none⟩ (.int .i64 ops)).heap.size ((w1.setCell ⟨H + 1 + 1, 0, none⟩ (.slice (some ⟨g, 0, none⟩) n n)).setCell ⟨H + 1 + 1, 1, none⟩ (.int .i64 ops)) w2 := by rw [hsz1]; exact hb2
  have t0 := u0.keep hb2'
  have t1 := u1.keep hb2'
  have t2 := u2.keep hb2'
  have ho2 := HO.out.keep hb2'
  have B4 := HB3.out.trans (hb2.mono (by omega))
  have hfp : ∀ x ∈ fpBs (.slice (some ⟨g, 0, none⟩) n n) qs, x < w1.heap.size := fun x hx => by have := HO.out.own.lt x hx; rw [hsz1] at this; exact this
  obtain ⟨G, hG⟩ : ∃ G, w1.heap.size = G := ⟨_, rfl⟩
  have hnd : NewDv w2 (H + 1 + 1 + 1) (some ⟨g, 0, none⟩) n n (some ⟨G, 0, none⟩) m m (bs.map BkR.D) fs qs := ⟨ho2, by rw [← hG]; exact hfo, fun x hx => by
    simp [Value.ownBlock] at hx
    subst hx
    exact ⟨by omega, fun h => by have := hfp _ h; omega⟩⟩
  rw [hG] at hw1 ⊢
  have a3 := t0.cell 3
  have c2 := t2.cell 2
  have c3 := t2.cell 3
  have f2 := t2.frozen 2
  have f3 := t2.frozen 3
  have v2 := (t2.set 2 (.slice (some ⟨G, 0, none⟩) m m)).set 3 (.bool down)
  have v1 := (t1.other (B' := H + 1 + 1) (by omega) 2 (.slice (some ⟨G, 0, none⟩) m m)).other (B' := H + 1 + 1) (by omega) 3 (.bool down)
  have d0 := v2.cell 0
  have d1 := v2.cell 1
  have d2 := v2.cell 2
  have d3 := v2.cell 3
  have g0 := v1.cell 0
  have g1 := v1.cell 1
  have g2 := v1.cell 2
  have g3 := v1.cell 3
  have h0 := v1.frozen 0
  have h1 := v1.frozen 1
  have h2 := v1.frozen 2
  have h3 := v1.frozen 3
  have vr := (((v1.set 0 (.slice (some ⟨g, 0, none⟩) n n)).set 1 (.int .i64 ops)).set 2 (.slice (some ⟨G, 0, none⟩) m m)).set 3 (.bool down)
  have r0 := vr.cell 0
  have r1 := vr.cell 1
  have r2 := vr.cell 2
  have r3 := vr.cell 3
  simp at a3 c2 c3 d0 d1 d2 d3 g0 g1 g2 g3 r0 r1 r2 r3
  have HN : Hid _ := And.intro hnd B4
  clear hnd B4 hfo hb2 hb2' ho2 HO HB3 hcall2 u0 u1 u2 t0 t1 t2 v1 v2 vr a1 a2 c0 c1 f0 f1 hfp hG
  go_wp2
  refine bodyPost_ret (v := .agg #[.slice (some ⟨g, 0, none⟩) n n, .int .i64 ops, .slice (some ⟨G, 0, none⟩) m m, .bool down]) (by simp [results, Try.f29, go_sem, r0, r1, r2, r3]) rfl ?_
  obtain ⟨hnd, B2⟩ := HN.out
  have s : ∀ (W : World) (j i : Nat) (v : Value), H ≤ j → Below H w W → Below H w (W.setCell ⟨j, i, none⟩ v) := fun W j i v hj hb => hb.setCell (p := ⟨j, i, none⟩) hj v
  have k : ∀ (W : World) (j i : Nat) (v : Value), j < H + 1 + 1 + 1 → NewDv W (H + 1 + 1 + 1) (some ⟨g, 0, none⟩) n n (some ⟨G, 0, none⟩) m m (bs.map BkR.D) fs qs → NewDv (W.setCell ⟨j, i, none⟩ v) (H + 1 + 1 + 1) (some ⟨g, 0, none⟩) n n (some ⟨G, 0, none⟩) m m (bs.map BkR.D) fs qs := fun W j i v hj h => h.set_below hj
  refine ⟨g, G, qs, rfl, (k _ _ _ _ (by omega) (k _ _ _ _ (by omega) (k _ _ _ _ (by omega) (k _ _ _ _ (by omega) (k _ _ _ _ (by omega) (k _ _ _ _ (by omega) hnd)))))).wider (by omega), ?_⟩
  rw [hH]
  exact s _ _ _ _ (by omega) (s _ _ _ _ (by omega) (s _ _ _ _ (by omega) (s _ _ _ _ (by omega) (s _ _ _ _ (by omega) (s _ _ _ _ (by omega) B2)))))
set_option maxHeartbeats 1600000 in
/-- eqDev of two that say the same. -/
theorem eqDv {w : World} {B B' n c c' m fc fc' : Nat} {a a' fa fa' : Option Addr} {ds : List BkD} {fs : List FtD} {qs qs' : List BkR} (ops : Int) (down : Bool) (hn : ds.length = n) (hs : totB ds ≤ 4000000) (hm : m ≤ 1048576) (h : NewDv w B a n c fa m fc ds fs qs) (h' : NewDv w B' a' n c' fa' m fc' ds fs qs') :
    Calls Try.prog 31 #[.agg #[.slice a n c, .int .i64 ops, .slice fa m fc, .bool down], .agg #[.slice a' n c', .int .i64 ops, .slice fa' m fc', .bool down]] w fun e w' => e = .returned (.bool true) ∧ Below w.heap.size w w' := by
  have B0 : Below w.heap.size w ((w.alloc (.cells #[.slice a n c, .int .i64 ops, .slice fa m fc, .bool down] 37)).alloc (.cells #[.slice a' n c', .int .i64 ops, .slice fa' m fc', .bool down] 37)) := ((Below.refl _ w).alloc (Nat.le_refl _) _).alloc (by simp) _
  have z0 := (Blk.new w 37 #[.slice a n c, .int .i64 ops, .slice fa m fc, .bool down]).alloc (.cells #[.slice a' n c', .int .i64 ops, .slice fa' m fc', .bool down] 37)
  have z1 := Blk.new (w.alloc (.cells #[.slice a n c, .int .i64 ops, .slice fa m fc, .bool down] 37)) 37 #[.slice a' n c', .int .i64 ops, .slice fa' m fc', .bool down]
  simp only [World.size_alloc] at z1
  have hcall := eqNew hn hs (h.bs.keep B0) (h'.bs.keep B0)
  have e0 : (ops != ops) = false := by simp
  have e1 : (down != down) = false := by simp
  have HF : Hid _ := OwnFa.fr (OwnE.keep h.fs B0) hm
  have HF' : Hid _ := OwnFa.fr (OwnE.keep h'.fs B0) hm
  obtain ⟨H, hH⟩ : ∃ H, w.heap.size = H := ⟨_, rfl⟩
  have q0 := z0.cell 0
  have p0 := z1.cell 0
  simp at q0 p0
  have HB : Hid _ := B0
  clear h h' hn B0
  go_enter Try.func31, Try.ntmps31
  go_wp2_with fail
  refine hcall.mono ?_
  rintro e w1 ⟨rfl, hb1⟩
  have t0 := z0.keep hb1
  have t1 := z1.keep hb1
  have hcall2 := eqFaultS_same fa fa' m fc fc' fs w1 (HF.out.keep hb1) (HF'.out.keep hb1)
  have B1 := HB.out.trans (hb1.mono HB.out.size)
  clear q0 p0 hcall z0 z1 HF HF' HB hb1
  have q1 := t0.cell 1
  have q2 := t0.cell 2
  have p1 := t1.cell 1
  have p2 := t1.cell 2
  rw [hH] at q1 q2 p1 p2 t0 t1
  simp at q1 q2 p1 p2
  have HB : Hid _ := B1
  clear B1
  go_wp2_with fail
  refine hcall2.mono ?_
  rintro e w2 ⟨rfl, hb2⟩
  have q3 := (t0.keep hb2).cell 3
  have p3 := (t1.keep hb2).cell 3
  simp at q3 p3
  clear q1 q2 p1 p2 t0 t1 hcall2
  go_wp2
  go_ret
  exact ⟨rfl, HB.out.trans (hb2.mono HB.out.size)⟩
/-- The marks. -/
def mkFa (k m : Nat) : List FtD := (List.range m).map fun i => ⟨((k + 3 * i : Nat) : Int), ((k + 3 * i + 1 : Nat) : Int), ((k + 3 * i + 2 : Nat) : Int)⟩
theorem mkFa_len (k m : Nat) : (mkFa k m).length = m := by simp [mkFa]
theorem mkFa_set {k i : Nat} {fs : List FtD} (h : i < fs.length) : (mkFa k i ++ fs.drop i).set i ⟨((k + 3 * i : Nat) : Int), ((k + 3 * i + 1 : Nat) : Int), ((k + 3 * i + 2 : Nat) : Int)⟩ = mkFa k (i + 1) ++ fs.drop (i + 1) := by
  rw [List.set_append_right _ _ (by rw [mkFa_len]; omega), mkFa_len, Nat.sub_self, List.drop_eq_getElem_cons h, List.set_cons_zero]
  simp [mkFa, List.range_succ]
theorem mkFa_now {k i : Nat} {fs : List FtD} {r : FtD} (h : fs[i]? = some r) : (mkFa k i ++ fs.drop i)[i]? = some r := by
  rw [List.getElem?_append_right (by rw [mkFa_len]; omega), mkFa_len, Nat.sub_self, List.getElem?_drop]
  simpa using h
set_option maxRecDepth 100000 in
set_option maxHeartbeats 4000000 in
theorem markFaultS_any (v : Value) (n k0 : Nat) (fs : List FtD) (w : World) (h1 : 1 ≤ k0) (hs : k0 + 3 * n ≤ 9999990) (hO : OwnFa w v n fs) :
    Calls Try.prog 66 #[v, .int .i64 k0] w fun e w' => e = .returned (.int .i64 ((k0 + 3 * n : Nat) : Int)) ∧ OwnFa w' v n (mkFa k0 n) ∧ Sv v.ownBlock.toList w w' := by
  have hln : fs.length = n := OwnE.len hO
  have hO1 : OwnE ftE 121 w v n fs := hO
  rcases hO1.cases with ⟨rfl, rfl, rfl⟩ | ⟨g, c, rfl, hglt⟩
  · go_enter Try.func66, Try.ntmps66
    go_wp2
    refine wp_loop_rounds 1 ?_; rw [rounds_succ]
    go_wp2
    go_ret
    exact ⟨by simp, hO, Sv.refl _ _⟩
  · have HO : Hid (OwnE ftE 121 w (.slice (some ⟨g, 0, none⟩) n c) n (mkFa k0 0 ++ fs.drop 0)) := hO
    have HN : Hid (fs.length = n) := hln
    clear hO hO1 hln
    go_enter Try.func66, Try.ntmps66
    go_wp2
    go_loopw [1, 5] (fun q i wr => ∃ (k m : Nat), k ≤ n ∧ i = .int .i64 k ∧ q = .int .i64 (m : Int) ∧ Hid (m = k0 + 3 * k) ∧ Hid (OwnE ftE 121 wr (.slice (some ⟨g, 0, none⟩) n c) n (mkFa k0 k ++ fs.drop k)) ∧ Hid (Sv [g] w wr)) (fun _ i _ => n - (intOf i).toNat)
    case atStart => exact ⟨0, k0, Nat.zero_le _, rfl, rfl, by show _ = _; omega, HO, Sv.refl _ _⟩
    case round =>
      obtain ⟨k, m, hk, rfl, rfl, hm, hOw, hSv⟩ := hrel
      by_cases hkn : k < n
      · have hki : (k : Int) < (n : Int) := by omega
        have hmo := hm.out
        have hm9 : m + 3 ≤ 9999990 := by omega
        obtain ⟨r, hrk⟩ : ∃ r, fs[k]? = some r := ⟨_, List.getElem?_eq_getElem (by rw [HN.out]; exact hkn)⟩
        have hat := mkFa_now (k := k0) hrk
        have hown := hOw.out
        have q0 : wr.cell? ⟨g, k * 3, none⟩ = some (.int .i64 r.tm) := hown.cell k 0 r hat (by decide)
        have f0 : wr.frozen? ⟨g, k * 3, none⟩ = false := hown.frozen (k * 3)
        have s0 := hown.set k 0 r ⟨(m : Int), r.kd, r.kp⟩ (.int .i64 (m : Int)) hat (by decide) (by simp [ftE])
        have a1 : ((mkFa k0 k ++ fs.drop k).set k ⟨(m : Int), r.kd, r.kp⟩)[k]? = some ⟨(m : Int), r.kd, r.kp⟩ := by rw [List.getElem?_set_self (List.getElem?_eq_some_iff.1 hat).1]
        have q1 : (wr.setCell ⟨g, k * 3, none⟩ (.int .i64 (m : Int))).cell? ⟨g, k * 3 + 1, none⟩ = some (.int .i64 r.kd) := s0.cell k 1 ⟨(m : Int), r.kd, r.kp⟩ a1 (by decide)
        have f1 : (wr.setCell ⟨g, k * 3, none⟩ (.int .i64 (m : Int))).frozen? ⟨g, k * 3 + 1, none⟩ = false := s0.frozen (k * 3 + 1)
        have s1 := s0.set k 1 ⟨(m : Int), r.kd, r.kp⟩ ⟨(m : Int), (m : Int) + 1, r.kp⟩ (.int .i64 ((m : Int) + 1)) a1 (by decide) (by simp [ftE])
        rw [set_set_at] at s1
        have a2 : ((mkFa k0 k ++ fs.drop k).set k ⟨(m : Int), (m : Int) + 1, r.kp⟩)[k]? = some ⟨(m : Int), (m : Int) + 1, r.kp⟩ := by rw [List.getElem?_set_self (List.getElem?_eq_some_iff.1 hat).1]
        have q2 : ((wr.setCell ⟨g, k * 3, none⟩ (.int .i64 (m : Int))).setCell ⟨g, k * 3 + 1, none⟩ (.int .i64 ((m : Int) + 1))).cell? ⟨g, k * 3 + 2, none⟩ = some (.int .i64 r.kp) := s1.cell k 2 ⟨(m : Int), (m : Int) + 1, r.kp⟩ a2 (by decide)
        have f2 : ((wr.setCell ⟨g, k * 3, none⟩ (.int .i64 (m : Int))).setCell ⟨g, k * 3 + 1, none⟩ (.int .i64 ((m : Int) + 1))).frozen? ⟨g, k * 3 + 2, none⟩ = false := s1.frozen (k * 3 + 2)
        have s2 := s1.set k 2 ⟨(m : Int), (m : Int) + 1, r.kp⟩ ⟨(m : Int), (m : Int) + 1, (m : Int) + 1 + 1⟩ (.int .i64 ((m : Int) + 1 + 1)) a2 (by decide) (by simp [ftE])
        rw [set_set_at, show (⟨(m : Int), (m : Int) + 1, (m : Int) + 1 + 1⟩ : FtD) = ⟨((k0 + 3 * k : Nat) : Int), ((k0 + 3 * k + 1 : Nat) : Int), ((k0 + 3 * k + 2 : Nat) : Int)⟩ by rw [FtD.mk.injEq]; omega, mkFa_set (by rw [HN.out]; exact hkn)] at s2
        have S2 : Hid _ := s2
        have HSV : Hid (Sv [g] w (((wr.setCell ⟨g, k * 3, none⟩ (.int .i64 (m : Int))).setCell ⟨g, k * 3 + 1, none⟩ (.int .i64 ((m : Int) + 1))).setCell ⟨g, k * 3 + 2, none⟩ (.int .i64 ((m : Int) + 1 + 1)))) := hSv.out.trans (Sv.gr (gr_more (gr_more (gr_setC wr g (k * 3) _) _ _) _ _) (fun x hx => by simp at hx; simp [hx]))
        have HT : Hid (m + 3 = k0 + 3 * (k + 1)) := by show _ = _; omega
        clear hmo hown s0 s1 s2 a1 a2 hat hrk
        go_wp2
        go_roundw
        case rel => exact ⟨k + 1, m + 3, by omega, by go_num, by go_num, HT, S2, HSV⟩
        case measure => simp [intOf]; omega
      · have hki : ¬ (k : Int) < (n : Int) := by omega
        obtain rfl : k = n := by omega
        go_wp2
        go_ret
        have := hOw.out
        rw [List.drop_of_length_le (by rw [HN.out]; omega), List.append_nil] at this
        have hmm := hm.out
        exact ⟨by show Ending.returned (.int .i64 (m : Int)) = _; exact ret_int (by omega), this, hSv.out⟩
/-- Marked. -/
structure MkDv (w : World) (v : Value) (m fc : Nat) (fa : Option Addr) (qs : List BkR) : Prop where
  bs : OwnBs w v (mkBs 1 qs)
  fs : OwnFa w (.slice fa m fc) m (mkFa (1 + cBs qs) m)
theorem MkDv.keep {w w' : World} {v : Value} {m fc : Nat} {fa : Option Addr} {qs : List BkR} (h : MkDv w v m fc fa qs) (hb : Below w.heap.size w w') : MkDv w' v m fc fa qs := ⟨h.bs.keep hb, OwnE.keep h.fs hb⟩
set_option maxHeartbeats 1600000 in
theorem markDv_any {w : World} {B n c m fc : Nat} {a fa : Option Addr} {ds : List BkD} {fs : List FtD} {qs : List BkR} (ops : Int) (down : Bool) (hs : 1 + cBs qs + 3 * m ≤ 9999990) (h : NewDv w B a n c fa m fc ds fs qs) :
    Calls Try.prog 38 #[.agg #[.slice a n c, .int .i64 ops, .slice fa m fc, .bool down], .int .i64 1] w fun e w' => e = .returned (.int .i64 ((1 + cBs qs + 3 * m : Nat) : Int)) ∧ MkDv w' (.slice a n c) m fc fa qs ∧ Sv (fpDv a n c fa m fc qs) w w' := by
  have B0 : Below w.heap.size w (w.alloc (.cells #[.slice a n c, .int .i64 ops, .slice fa m fc, .bool down] 37)) := (Below.refl _ w).alloc (Nat.le_refl _) _
  have z0 := Blk.new w 37 #[.slice a n c, .int .i64 ops, .slice fa m fc, .bool down]
  have hcall := markCh_any (.slice a n c) 1 qs (w.alloc (.cells #[.slice a n c, .int .i64 ops, .slice fa m fc, .bool down] 37)) (Nat.le_refl _) (by omega) (h.bs.own.keep B0) h.bs.nd
  have hlt : Hid (∀ g ∈ fpDv a n c fa m fc qs, g < w.heap.size) := h.lt
  have HD : Hid _ := h.keep B0
  have HB : Hid _ := B0
  clear h B0
  go_enter Try.func38, Try.ntmps38
  go_wp2_with fail
  refine hcall.mono ?_
  rintro e w1 ⟨rfl, hO, hsv⟩
  have t0 := Blk.svs z0 hsv (fun hf => by have := hlt.out w.heap.size (fpDv_bs hf); omega)
  have hfo : OwnFa w1 (.slice fa m fc) m fs := OwnE.block HD.out.fs fun g hg => hsv.block g (OwnE.lt HD.out.fs hg) (HD.out.new g hg).2
  have q2 := t0.cell 2
  simp at q2
  have hcall2 := markFaultS_any (.slice fa m fc) m (1 + cBs qs) fs w1 (by omega) hs hfo
  have HO : Hid (OwnBs w1 (.slice a n c) (mkBs 1 qs)) := hO
  have HSV : Hid _ := hsv
  obtain ⟨Q, hQ⟩ : ∃ Q, 1 + cBs qs = Q := ⟨_, rfl⟩
  rw [hQ] at hcall2 ⊢
  clear hcall z0 hO hsv hfo t0
  go_wp2_with fail
  refine hcall2.mono ?_
  rintro e w2 ⟨rfl, hF, hsv2⟩
  clear hcall2 q2
  go_wp2
  go_ret
  refine ⟨by show Ending.returned (.int .i64 ((Q : Int) + 3 * (m : Int))) = _; exact ret_int (by omega), ⟨HO.out.svs hsv2 (fun g hg hf => ?_), by rw [hQ]; exact hF⟩, ?_⟩
  · have h3 : g ∈ fpBs (.slice a n c) qs := by
      have : fpBs (.slice a n c) (mkBs 1 qs) = fpBs (.slice a n c) qs := by unfold fpBs; rw [fp_mkBs]
      rw [this] at hg; exact hg
    exact (HD.out.new g (by simpa using hf)).2 h3
  · exact ((Below.sv HB.out _).trans (HSV.out.wider fun g hg => fpDv_bs hg)).trans (hsv2.wider fun g hg => fpDv_fs (by simpa using hg))
end

section
open Go.ChangeShapes Go.WideShapes Go.ChangeAt Go.RowKit
theorem list5 {α : Type} {l : List α} (h : l.length = 5) : ∃ a b c d e, l = [a, b, c, d, e] := by
  match l, h with
  | [a, b, c, d, e], _ => exact ⟨a, b, c, d, e, rfl⟩
theorem list2L {α : Type} {l : List α} (h : l.length = 2) : ∃ a b, l = [a, b] := by
  match l, h with
  | [a, b], _ => exact ⟨a, b, rfl⟩
section
variable {H : Type} {enc : TypeId × Value → H} {w : World} {base : Nat} {held : Bool}
set_option maxRecDepth 100000 in
theorem open_log {base' : Nat} {v : Value} {d : DataW H} {p : List MemPlace} (hv : Value.okWide Try.prog w .any base' 29 v) (h : DataW.Trod enc Try.prog w base (fun _ => true) held 29 v d p) :
    ∃ (a : Option Addr) (cap : Nat) (bs : List BkR) (ops : Int) (fa : Option Addr) (fc : Nat) (fs : List FtD) (down : Bool) (seq : Int), v = .agg #[.slice a bs.length cap, .int .i64 ops, .slice fa fs.length fc, .bool down, .int .i64 seq] ∧ (bs.length ≤ maxLen ∧ (∀ r ∈ bs, BkIn r) ∧ RdBs w a bs ∧ fs.length ≤ maxLen ∧ RdFa w fa fs ∧ (Lit.int .i64 seq).wf = true) := by
  obtain ⟨cs, rfl, hsz⟩ := okWide_struct Try.underlying29 hv
  obtain ⟨fuel, hf⟩ := h
  obtain ⟨xs0, n0, _, _, hl0, hlen0, hfld0⟩ := DataW.trod_struct Try.underlying29 hf
  have hC0 : Try.prog.cellsOf 29 = 5 := by kernel_rfl
  have kD : Try.prog.cellsOf 27 = 4 := by kernel_rfl
  have kC : Try.prog.cellsOf 24 = 1 := by kernel_rfl
  have k3 : Try.prog.cellsOf 3 = 1 := by kernel_rfl
  have kF : Try.prog.cellsOf 25 = 1 := by kernel_rfl
  have k4 : Try.prog.cellsOf 4 = 1 := by kernel_rfl
  have kB : Try.prog.cellsOf 22 = 1 := by kernel_rfl
  rw [hC0] at hsz
  obtain ⟨l⟩ := cs
  simp only [List.size_toArray] at hsz
  obtain ⟨v0, v1, v2, v3, v4, rfl⟩ := list5 hsz
  obtain ⟨y0, y1, rfl⟩ := list2L hlen0
  have e0 := hfld0 0 _ rfl
  have e1 := hfld0 1 _ rfl
  simp [Value.cells, kD, k3] at e0 e1
  obtain ⟨xs, n, _, _, hl, hlen, hfld⟩ := DataW.trod_struct Try.underlying27 e0
  obtain ⟨z0, z1, z2, z3, rfl⟩ := list4 hlen
  have f0 := hfld 0 _ rfl
  have f1 := hfld 1 _ rfl
  have f2 := hfld 2 _ rfl
  have f3 := hfld 3 _ rfl
  simp [kC, k3, kF, k4] at f0 f1 f2 f3
  obtain ⟨xs', n', _, _, hl', hlen', hfld'⟩ := DataW.trod_struct Try.underlying24 f0
  obtain ⟨y0', rfl⟩ := list1 hlen'
  have g0 := hfld' 0 _ rfl
  simp [kB] at g0
  obtain ⟨a, cap, es, e0, hm, hI, hR⟩ := open_blocks g0
  obtain ⟨ops, e1', _, _⟩ := DataW.trod_int Try.underlying3 f1
  obtain ⟨fa, fc, fs, e2, hfm, hfR⟩ := open_fts f2
  obtain ⟨down, e3, _⟩ := DataW.trod_bool Try.underlying4 f3
  obtain ⟨seq, e4, _, hws⟩ := DataW.trod_int Try.underlying3 e1
  simp only [List.cons.injEq, and_true] at e0 e1' e2 e3 e4
  subst e0 e1' e2 e3 e4
  exact ⟨a, cap, es, ops, fa, fc, fs, down, seq, rfl, hm, hI, hR, hfm, hfR, hws⟩
end
set_option maxHeartbeats 1600000 in
theorem szLog_w (a : Option Addr) (n cap x : Nat) (bs : List BkR) (ops : Int) (fa : Option Addr) (m fc : Nat) (down : Bool) (seq : Int) (w : World) (hn : bs.length = n) (hm : n ≤ maxLen) (hfm : m ≤ maxLen) (hx : x ≤ 1048576) (hin : ∀ r ∈ bs, BkIn r) (hr : RdBs w a bs) :
    Calls Try.prog 8 #[.agg #[.slice a n cap, .int .i64 ops, .slice fa m fc, .bool down, .int .i64 seq], .int .i64 x] w fun e w' => SzQ x (totB (bs.map BkR.D) + m) True e ∧ Below w.heap.size w w' := by
  have B0 : Below w.heap.size w (w.alloc (.cells #[.slice a n cap, .int .i64 ops, .slice fa m fc, .bool down, .int .i64 seq] 29)) := (Below.refl _ w).alloc (Nat.le_refl _) _
  have hcall := szDev_w a n cap x bs ops fa m fc down (w.alloc (.cells #[.slice a n cap, .int .i64 ops, .slice fa m fc, .bool down, .int .i64 seq] 29)) hn hm hfm hx hin (hr.keep B0)
  have HB : Hid _ := B0
  clear B0 hin hr hn
  go_enter Try.func8, Try.ntmps8
  go_wp2_with fail
  refine hcall.mono ?_
  rintro e w1 ⟨(rfl | ⟨v, hv, rfl, hzz⟩), hb1⟩
  · go_wp2
    go_ret
    exact ⟨.inl rfl, HB.out.trans (hb1.mono HB.out.size)⟩
  · have hv0 : ¬ (v : Int) < 0 := by omega
    go_wp2
    go_ret
    exact ⟨.inr ⟨v, hv, rfl, trivial⟩, HB.out.trans (hb1.mono HB.out.size)⟩
set_option maxHeartbeats 3200000 in
theorem toLog_any (a : Option Addr) (n cap : Nat) (bs : List BkR) (ops : Int) (fa : Option Addr) (m fc : Nat) (fs : List FtD) (down : Bool) (seq : Int) (w : World) (ht : CR w a n bs) (hf : FR w fa m fs) :
    Calls Try.prog 10 #[.agg #[.slice a n cap, .int .i64 ops, .slice fa m fc, .bool down, .int .i64 seq]] w fun e w' => ∃ g g' qs, e = .returned (.agg #[.slice (some ⟨g, 0, none⟩) n n, .int .i64 ops, .slice (some ⟨g', 0, none⟩) m m, .bool down, .int .i64 seq]) ∧ NewDv w' w.heap.size (some ⟨g, 0, none⟩) n n (some ⟨g', 0, none⟩) m m (bs.map BkR.D) fs qs ∧ Below w.heap.size w w' := by
  have B0 : Below w.heap.size w (((w.alloc (.cells #[.slice a n cap, .int .i64 ops, .slice fa m fc, .bool down, .int .i64 seq] 29)).alloc (.cells #[.slice none 0 0, .int .i64 0, .slice none 0 0, .bool false, .int .i64 0] 39)).alloc (.cells #[.slice none 0 0, .int .i64 0, .slice none 0 0, .bool false, .int .i64 0] 39)) := (((Below.refl _ w).alloc (Nat.le_refl _) _).alloc (by simp) _).alloc (by simp; omega) _
  obtain ⟨H, hH⟩ : ∃ H, w.heap.size = H := ⟨_, rfl⟩
  have z0 : Blk (((w.alloc (.cells #[.slice a n cap, .int .i64 ops, .slice fa m fc, .bool down, .int .i64 seq] 29)).alloc (.cells #[.slice none 0 0, .int .i64 0, .slice none 0 0, .bool false, .int .i64 0] 39)).alloc (.cells #[.slice none 0 0, .int .i64 0, .slice none 0 0, .bool false, .int .i64 0] 39)) w.heap.size 29 #[.slice a n cap, .int .i64 ops, .slice fa m fc, .bool down, .int .i64 seq] := ((Blk.new w 29 _).alloc _).alloc _
  have z1 := (Blk.new (w.alloc (.cells #[.slice a n cap, .int .i64 ops, .slice fa m fc, .bool down, .int .i64 seq] 29)) 39 #[.slice none 0 0, .int .i64 0, .slice none 0 0, .bool false, .int .i64 0]).alloc (.cells #[.slice none 0 0, .int .i64 0, .slice none 0 0, .bool false, .int .i64 0] 39)
  have z2 := Blk.new ((w.alloc (.cells #[.slice a n cap, .int .i64 ops, .slice fa m fc, .bool down, .int .i64 seq] 29)).alloc (.cells #[.slice none 0 0, .int .i64 0, .slice none 0 0, .bool false, .int .i64 0] 39)) 39 #[.slice none 0 0, .int .i64 0, .slice none 0 0, .bool false, .int .i64 0]
  have hs0 : (((w.alloc (.cells #[.slice a n cap, .int .i64 ops, .slice fa m fc, .bool down, .int .i64 seq] 29)).alloc (.cells #[.slice none 0 0, .int .i64 0, .slice none 0 0, .bool false, .int .i64 0] 39)).alloc (.cells #[.slice none 0 0, .int .i64 0, .slice none 0 0, .bool false, .int .i64 0] 39)).heap.size = w.heap.size + 1 + 1 + 1 := by simp
  simp only [World.size_alloc] at z1 z2
  obtain ⟨W0, hW0⟩ : ∃ W, ((w.alloc (.cells #[.slice a n cap, .int .i64 ops, .slice fa m fc, .bool down, .int .i64 seq] 29)).alloc (.cells #[.slice none 0 0, .int .i64 0, .slice none 0 0, .bool false, .int .i64 0] 39)).alloc (.cells #[.slice none 0 0, .int .i64 0, .slice none 0 0, .bool false, .int .i64 0] 39) = W := ⟨_, rfl⟩
  rw [hW0] at B0 z0 z1 z2 hs0
  have hcall := toDev_any a n cap bs ops fa m fc fs down W0 ⟨ht.len, ht.tot, ht.rd.keep B0⟩ (hf.keep B0)
  rw [hH] at z0 z1 z2 hs0 B0
  rw [hs0] at hcall
  have x0 := z0.cell 0
  have x1 := z0.cell 1
  have x2 := z0.cell 2
  have x3 := z0.cell 3
  simp at x0 x1 x2 x3
  have HB : Hid _ := B0
  clear ht B0 hf
  go_enter Try.func10, Try.ntmps10
  go_wp2_with fail
  refine hcall.mono ?_
  rintro e w1 ⟨g, G, qs, rfl, ho, hb1⟩
  have B2 := HB.out.trans (hb1.mono (by omega))
  have t0 := z0.keep (by rw [hs0]; exact hb1)
  have t1 := z1.keep (by rw [hs0]; exact hb1)
  have t2 := z2.keep (by rw [hs0]; exact hb1)
  clear z0 z1 z2 hb1 hcall x0 x1 x2 x3
  have a4 := t0.cell 4
  have c0 := t2.cell 0
  have c1 := t2.cell 1
  have c2 := t2.cell 2
  have c3 := t2.cell 3
  have c4 := t2.cell 4
  have f0 := t2.frozen 0
  have f1 := t2.frozen 1
  have f2 := t2.frozen 2
  have f3 := t2.frozen 3
  have f4 := t2.frozen 4
  have v2 := ((((t2.set 0 (.slice (some ⟨g, 0, none⟩) n n)).set 1 (.int .i64 ops)).set 2 (.slice (some ⟨G, 0, none⟩) m m)).set 3 (.bool down)).set 4 (.int .i64 seq)
  have v1 := ((((t1.other (B' := H + 1 + 1) (by omega) 0 (.slice (some ⟨g, 0, none⟩) n n)).other (B' := H + 1 + 1) (by omega) 1 (.int .i64 ops)).other (B' := H + 1 + 1) (by omega) 2 (.slice (some ⟨G, 0, none⟩) m m)).other (B' := H + 1 + 1) (by omega) 3 (.bool down)).other (B' := H + 1 + 1) (by omega) 4 (.int .i64 seq)
  have d0 := v2.cell 0
  have d1 := v2.cell 1
  have d2 := v2.cell 2
  have d3 := v2.cell 3
  have d4 := v2.cell 4
  have g0 := v1.cell 0
  have g1 := v1.cell 1
  have g2 := v1.cell 2
  have g3 := v1.cell 3
  have g4 := v1.cell 4
  have h0 := v1.frozen 0
  have h1 := v1.frozen 1
  have h2 := v1.frozen 2
  have h3 := v1.frozen 3
  have h4 := v1.frozen 4
  have vr := ((((v1.set 0 (.slice (some ⟨g, 0, none⟩) n n)).set 1 (.int .i64 ops)).set 2 (.slice (some ⟨G, 0, none⟩) m m)).set 3 (.bool down)).set 4 (.int .i64 seq)
  have r0 := vr.cell 0
  have r1 := vr.cell 1
  have r2 := vr.cell 2
  have r3 := vr.cell 3
  have r4 := vr.cell 4
  simp at a4 c0 c1 c2 c3 c4 d0 d1 d2 d3 d4 g0 g1 g2 g3 g4 r0 r1 r2 r3 r4
  have HN : Hid _ := And.intro ho B2
  clear ho B2 t0 t1 t2 v1 v2 vr HB
  go_wp2
  refine bodyPost_ret (v := .agg #[.slice (some ⟨g, 0, none⟩) n n, .int .i64 ops, .slice (some ⟨G, 0, none⟩) m m, .bool down, .int .i64 seq]) (by simp [results, Try.f10, go_sem, r0, r1, r2, r3, r4]) rfl ?_
  obtain ⟨hnd, B2⟩ := HN.out
  have s : ∀ (W : World) (j i : Nat) (v : Value), H ≤ j → Below H w W → Below H w (W.setCell ⟨j, i, none⟩ v) := fun W j i v hj hb => hb.setCell (p := ⟨j, i, none⟩) hj v
  have k : ∀ (W : World) (j i : Nat) (v : Value), j < H + 1 + 1 + 1 → NewDv W (H + 1 + 1 + 1) (some ⟨g, 0, none⟩) n n (some ⟨G, 0, none⟩) m m (bs.map BkR.D) fs qs → NewDv (W.setCell ⟨j, i, none⟩ v) (H + 1 + 1 + 1) (some ⟨g, 0, none⟩) n n (some ⟨G, 0, none⟩) m m (bs.map BkR.D) fs qs := fun W j i v hj h => h.set_below hj
  refine ⟨g, G, qs, rfl, (k _ _ _ _ (by omega) (k _ _ _ _ (by omega) (k _ _ _ _ (by omega) (k _ _ _ _ (by omega) (k _ _ _ _ (by omega) (k _ _ _ _ (by omega) (k _ _ _ _ (by omega) (k _ _ _ _ (by omega) (k _ _ _ _ (by omega) (k _ _ _ _ (by omega) hnd)))))))))).wider (by omega), ?_⟩
  rw [hH]
  exact s _ _ _ _ (by omega) (s _ _ _ _ (by omega) (s _ _ _ _ (by omega) (s _ _ _ _ (by omega) (s _ _ _ _ (by omega) (s _ _ _ _ (by omega) (s _ _ _ _ (by omega) (s _ _ _ _ (by omega) (s _ _ _ _ (by omega) (s _ _ _ _ (by omega) B2)))))))))
set_option maxHeartbeats 1600000 in
/-- eqLog of two that say the same. -/
theorem eqLg {w : World} {B B' n c c' m fc fc' : Nat} {a a' fa fa' : Option Addr} {ds : List BkD} {fs : List FtD} {qs qs' : List BkR} (ops : Int) (down : Bool) (seq : Int) (hn : ds.length = n) (hs : totB ds ≤ 4000000) (hm : m ≤ 1048576) (h : NewDv w B a n c fa m fc ds fs qs) (h' : NewDv w B' a' n c' fa' m fc' ds fs qs') :
    Calls Try.prog 12 #[.agg #[.slice a n c, .int .i64 ops, .slice fa m fc, .bool down, .int .i64 seq], .agg #[.slice a' n c', .int .i64 ops, .slice fa' m fc', .bool down, .int .i64 seq]] w fun e w' => e = .returned (.bool true) ∧ Below w.heap.size w w' := by
  have B0 : Below w.heap.size w ((w.alloc (.cells #[.slice a n c, .int .i64 ops, .slice fa m fc, .bool down, .int .i64 seq] 39)).alloc (.cells #[.slice a' n c', .int .i64 ops, .slice fa' m fc', .bool down, .int .i64 seq] 39)) := ((Below.refl _ w).alloc (Nat.le_refl _) _).alloc (by simp) _
  have z0 := (Blk.new w 39 #[.slice a n c, .int .i64 ops, .slice fa m fc, .bool down, .int .i64 seq]).alloc (.cells #[.slice a' n c', .int .i64 ops, .slice fa' m fc', .bool down, .int .i64 seq] 39)
  have z1 := Blk.new (w.alloc (.cells #[.slice a n c, .int .i64 ops, .slice fa m fc, .bool down, .int .i64 seq] 39)) 39 #[.slice a' n c', .int .i64 ops, .slice fa' m fc', .bool down, .int .i64 seq]
  simp only [World.size_alloc] at z1
  have hcall := eqDv ops down hn hs hm (h.keep B0) (h'.keep B0)
  have e0 : (seq != seq) = false := by simp
  obtain ⟨H, hH⟩ : ∃ H, w.heap.size = H := ⟨_, rfl⟩
  have q0 := z0.cell 0
  have q1 := z0.cell 1
  have q2 := z0.cell 2
  have q3 := z0.cell 3
  have p0 := z1.cell 0
  have p1 := z1.cell 1
  have p2 := z1.cell 2
  have p3 := z1.cell 3
  simp at q0 q1 q2 q3 p0 p1 p2 p3
  have HB : Hid _ := B0
  clear h h' hn B0
  go_enter Try.func12, Try.ntmps12
  go_wp2_with fail
  refine hcall.mono ?_
  rintro e w1 ⟨rfl, hb1⟩
  have t0 := z0.keep hb1
  have t1 := z1.keep hb1
  have B1 := HB.out.trans (hb1.mono HB.out.size)
  clear q0 q1 q2 q3 p0 p1 p2 p3 hcall z0 z1 HB hb1
  have q4 := t0.cell 4
  have p4 := t1.cell 4
  rw [hH] at q4 p4 t0 t1
  simp at q4 p4
  go_wp2
  go_ret
  exact ⟨rfl, B1⟩
end
end Go.Proofs.Ytcocjffjhbpoeaa
