/-
  Joined: RecX, RecY.
-/
import Derived.Test.YteaciccegmichaaJ18R
namespace Go.Proofs.Yteaciccegmichaa
section
open Go.RowKit
/-- What is known of a record while it is drawn: its box, the answer's cell, its bytes. -/
structure XR (w W : World) (gc n cap : Nat) (a : Option Addr) (zs : List Int) (X : Nat) (D : RecD) (g c : Nat) : Prop where
  src : Src W gc n cap a zs
  gr : w.grownBy W (some gc)
  res : Blk W w.heap.size 25 #[.int .i64 0, .int .i64 0, .slice none 0 0]
  box : Blk W X 25 (recC D (some ⟨g, 0, none⟩) c)
  own : Own W g D.body.length c D.body
  byt : Byt D.body
  len : D.body.length ≤ 381
  hX : w.heap.size < X
  hg : w.heap.size < g
  hne : g ≠ X
  hgc : gc < w.heap.size
theorem XR.step {w W W' : World} {gc n cap : Nat} {a : Option Addr} {zs : List Int} {X g c : Nat} {D : RecD} (h : XR w W gc n cap a zs X D g c) (hs : Src W' gc n cap a zs) (hg : W.grownBy W' (some gc)) : XR w W' gc n cap a zs X D g c :=
  ⟨hs, h.gr.trans hg, h.res.kept hg (by have := h.hgc; omega), h.box.kept hg (by have := h.hgc; have := h.hX; omega), h.own.kept hg (by have := h.hgc; have := h.hg; omega), h.byt, h.len, h.hX, h.hg, h.hne, h.hgc⟩
theorem XR.alloc {w W : World} {gc n cap : Nat} {a : Option Addr} {zs : List Int} {X g c : Nat} {D : RecD} (h : XR w W gc n cap a zs X D g c) (o : Obj) : XR w (W.alloc o) gc n cap a zs X D g c :=
  ⟨h.src.alloc o, h.gr.trans (World.grownBy_alloc W o _), h.res.alloc o, h.box.alloc o, World.ownsRow.alloc h.own o, h.byt, h.len, h.hX, h.hg, h.hne, h.hgc⟩
theorem XR.kind {w W : World} {gc n cap : Nat} {a : Option Addr} {zs : List Int} {X g c : Nat} {D : RecD} (h : XR w W gc n cap a zs X D g c) (k : Int) : XR w (W.setCell ⟨X, 0, none⟩ (.int .i64 k)) gc n cap a zs X ⟨k, D.seq, D.body⟩ g c := by
  have hg := gr_setC W X 0 (.int .i64 k)
  have h1 := h.hX
  have h2 := h.hgc
  have h3 := h.hne
  exact ⟨h.src.other hg (by omega), gr_mono h.gr (.inr (by omega)) hg, h.res.kept hg (by omega), h.box.set 0 _, h.own.kept hg h3, h.byt, h.len, h1, h.hg, h3, h2⟩
theorem XR.seq {w W : World} {gc n cap : Nat} {a : Option Addr} {zs : List Int} {X g c : Nat} {D : RecD} (h : XR w W gc n cap a zs X D g c) (k : Int) : XR w (W.setCell ⟨X, 1, none⟩ (.int .i64 k)) gc n cap a zs X ⟨D.kind, k, D.body⟩ g c := by
  have hg := gr_setC W X 1 (.int .i64 k)
  have h1 := h.hX
  have h2 := h.hgc
  have h3 := h.hne
  exact ⟨h.src.other hg (by omega), gr_mono h.gr (.inr (by omega)) hg, h.res.kept hg (by omega), h.box.set 1 _, h.own.kept hg h3, h.byt, h.len, h1, h.hg, h3, h2⟩
end

section
open Go.RowKit
theorem XR.body {w W : World} {gc n cap : Nat} {a : Option Addr} {zs : List Int} {X g c : Nat} {D : RecD} (h : XR w W gc n cap a zs X D g c) {g' m c' : Nat} {ys : List Int} (ho : Own W g' m c' ys) (hm : m ≤ 381) (hg' : w.heap.size < g') (hne : g' ≠ X) (hb : Byt ys) : XR w (W.setCell ⟨X, 2, none⟩ (.slice (some ⟨g', 0, none⟩) m c')) gc n cap a zs X ⟨D.kind, D.seq, ys⟩ g' c' := by
  have hg := gr_setC W X 2 (.slice (some ⟨g', 0, none⟩) m c')
  have h1 := h.hX
  have h2 := h.hgc
  have hl := ho.len
  subst hl
  exact ⟨h.src.other hg (by omega), gr_mono h.gr (.inr (by omega)) hg, h.res.kept hg (by omega), h.box.set 2 _, ho.kept hg hne, hb, hm, h1, hg', hne, h2⟩
/-- A record was drawn: small, of bytes, in memory of its own. -/
def R12 (w : World) (gc n cap : Nat) (a : Option Addr) (zs : List Int) (e : Ending) (w' : World) : Prop := ∃ (D : RecD) (g c : Nat), e = .returned (.agg (recC D (some ⟨g, 0, none⟩) c)) ∧ w.heap.size ≤ g ∧ (Byt D.body ∧ D.body.length ≤ 381) ∧ Own w' g D.body.length c D.body ∧ Src w' gc n cap a zs ∧ w.grownBy w' (some gc)
theorem XR.fin {w W : World} {gc n cap : Nat} {a : Option Addr} {zs : List Int} {X g c m : Nat} {D : RecD} (h : XR w W gc n cap a zs X D g c) (hm : D.body.length = m) : R12 w gc n cap a zs (.returned (.agg #[.int .i64 D.kind, .int .i64 D.seq, .slice (some ⟨g, 0, none⟩) m c])) (((W.setCell ⟨w.heap.size, 0, none⟩ (.int .i64 D.kind)).setCell ⟨w.heap.size, 1, none⟩ (.int .i64 D.seq)).setCell ⟨w.heap.size, 2, none⟩ (.slice (some ⟨g, 0, none⟩) m c)) := by
  have gf := set3_gr W w.heap.size (.int .i64 D.kind) (.int .i64 D.seq) (.slice (some ⟨g, 0, none⟩) m c)
  have h1 := h.hg
  have h2 := h.hgc
  exact ⟨D, g, c, by unfold recC; rw [hm], by omega, ⟨h.byt, h.len⟩, Own.kept h.own gf (by omega), h.src.other gf (by omega), gr_mono h.gr (.inr (Nat.le_refl _)) gf⟩
theorem gr_any {W W' : World} (h : W.grownBy W' none) (g : Nat) : W.grownBy W' (some g) := ⟨h.os, h.tape, h.output, h.size, fun k hk _ => h.block k hk (by simp)⟩
/-- A new body of q bytes. -/
theorem XR.made {w W W' : World} {gc n cap : Nat} {a : Option Addr} {zs : List Int} {X g c q : Nat} {D : RecD} (h : XR w W gc n cap a zs X D g c) (hgrow : W.grownBy W' none) (hown : W'.ownsRow 0 5 1 (.slice (some ⟨W.heap.size, 0, none⟩) q q) q (madeCells (Value.int .u8 0).cells (q * 1)).toList) (hq : q ≤ 381) : XR w W' gc n cap a zs X D g c ∧ XR w (W'.setCell ⟨X, 2, none⟩ (.slice (some ⟨W.heap.size, 0, none⟩) q q)) gc n cap a zs X ⟨D.kind, D.seq, List.replicate q 0⟩ W.heap.size q := by
  have hB : Below W.heap.size W W' := (Below.refl _ _).grown hgrow (Nat.le_refl _) (by simp)
  have h1 := h.step (h.src.keep hB) (gr_any hgrow gc)
  have h2 := h.gr.size
  have h3 := h.hgc
  have h4 := h.box.lt
  have h5 := h.hX
  refine ⟨h1, h1.body (made_own hown) hq (by omega) (by omega) (fun z hz => ?_)⟩
  have := List.eq_of_mem_replicate hz
  omega
set_option maxRecDepth 100000 in
set_option maxHeartbeats 4000000 in
theorem l12AnyS (gc n cap : Nat) (a : Option Addr) (zs : List Int) (w : World) (h : Src w gc n cap a zs) :
    Calls Try.prog 25 #[.pointer (some ⟨gc, 0, none⟩)] w (R12 w gc n cap a zs) := by
  have hgc := h.cur.lt
  have h0 := h.alloc (.cells #[.int .i64 0, .int .i64 0, .slice none 0 0] 25)
  have res0 : Blk (w.alloc (.cells #[.int .i64 0, .int .i64 0, .slice none 0 0] 25)) w.heap.size 25 #[.int .i64 0, .int .i64 0, .slice none 0 0] := Blk.new w _ _
  have G0 : w.grownBy (w.alloc (.cells #[.int .i64 0, .int .i64 0, .slice none 0 0] 25)) (some gc) := World.grownBy_alloc w _ _
  obtain ⟨P, hP⟩ : ∃ P, R12 w gc n cap a zs = P := ⟨_, rfl⟩
  have HP : Hid _ := hP
  rw [hP]
  clear hP
  go_enter Try.func25, Try.ntmps25
  go_wp2_with fail
  obtain ⟨W0, hW0⟩ : ∃ W, w.alloc (.cells #[.int .i64 0, .int .i64 0, .slice none 0 0] 25) = W := ⟨_, rfl⟩
  rw [hW0] at h0 res0 G0 ⊢
  have hs0 : W0.heap.size = w.heap.size + 1 := by rw [← hW0]; simp
  clear hW0
  refine (l12DrawS gc n cap a zs W0 h0).mono ?_
  rintro e w1 ⟨D, g, c, rfl, hg, ⟨hok, hby⟩, ho, s1, g1⟩
  have res1 : Blk w1 w.heap.size 25 _ := res0.kept g1 (by omega)
  have G1 := G0.trans g1
  have hl380 := ((recOk_iff D).1 hok).2.2.2.2
  have hsz1 := g1.size
  have hglt := ho.lt
  have xr0 : XR w (w1.alloc (.cells (recC D (some ⟨g, 0, none⟩) c) 25)) gc n cap a zs w1.heap.size D g c :=
    ⟨s1.alloc _, G1.trans (World.grownBy_alloc _ _ _), res1.alloc _, Blk.new w1 _ _, World.ownsRow.alloc ho _, hby, by omega, by omega, by omega, by omega, hgc⟩
  clear res0 G0 g1 h0 res1 G1 s1 ho hby hok
  obtain ⟨kind, seq, body⟩ := D
  unfold recC at xr0 ⊢
  dsimp only at xr0 hl380 ⊢
  obtain ⟨nb, hnb⟩ : ∃ m, body.length = m := ⟨_, rfl⟩
  rw [hnb] at xr0 ⊢
  go_wp2_with fail
  obtain ⟨W1, hW1⟩ : ∃ W, w1.alloc (.cells #[.int .i64 kind, .int .i64 seq, .slice (some ⟨g, 0, none⟩) nb c] 25) = W := ⟨_, rfl⟩
  rw [hW1] at xr0 ⊢
  obtain ⟨X, hX⟩ : ∃ X, w1.heap.size = X := ⟨_, rfl⟩
  rw [hX] at xr0 ⊢
  clear hW1 hX
  refine (below_step gc n cap a zs 8 W1 xr0.src (by omega) (by omega)).mono ?_
  rintro e w2 ⟨x, rfl, hx, s2, g2⟩
  have xr := xr0.step s2 g2
  clear xr0 s2 g2
  have XRH : Hid (XR w w2 gc n cap a zs X ⟨kind, seq, body⟩ g c) := xr
  have HNB : Hid (body.length = nb) := hnb
  clear xr hnb
  by_cases h0 : x = 0
  · subst h0
    go_wp2_with fail
    refine (below_step gc n cap a zs 6 w2 XRH.out.src (by omega) (by omega)).mono ?_
    rintro e w3 ⟨y, rfl, hy, s3, g3⟩
    have xr3 := (XRH.out.step s3 g3).kind (y : Int)
    have xb := (XRH.out.step s3 g3).box
    have fb0 := xb.frozen 0
    have cb0 := xb.cell 0
    simp [recC] at cb0
    clear xb s3 g3
    have xf := xr3
    obtain ⟨b0, b1, b2⟩ := (show Blk _ X 25 #[.int .i64 (y : Int), .int .i64 seq, .slice (some ⟨g, 0, none⟩) nb c] by have := xf.box; unfold recC at this; dsimp only at this; rw [HNB.out] at this; exact this).thr
    have fr0 := xf.res.frozen 0
    have fr1 := xf.res.frozen 1
    have fr2 := xf.res.frozen 2
    obtain ⟨r0, r1, r2⟩ := xf.res.thr
    have zf := set3_blk xf.res (.int .i64 (y : Int)) (.int .i64 seq) (.slice (some ⟨g, 0, none⟩) nb c)
    obtain ⟨d0, d1, d2⟩ := zf.thr
    have FF : Hid _ := xf.fin HNB.out
    clear xf zf
    go_wp2
    refine bodyPost_ret (v := .agg #[.int .i64 (y : Int), .int .i64 seq, .slice (some ⟨g, 0, none⟩) nb c]) (by simp [results, Try.f25, go_sem, d0, d1, d2]) rfl ?_
    rw [← HP.out]
    exact FF.out

  by_cases h1 : x = 1
  · subst h1
    have hcl := ints_cells w2 [-1, 1000001] 3
    have HCL : Hid (∀ j, j < 2 → (w2.alloc (.cells #[.int .i64 (-1), .int .i64 1000001] 3)).cell? ⟨w2.heap.size, j, none⟩ = some (.int .i64 (([-1, 1000001] : List Int).getD j 0))) := hcl
    clear hcl
    have hgl := XRH.out.gr.size
    go_wp2_with fail
    refine (int_step gc n cap a zs w2.heap.size 2 [-1, 1000001] _ (XRH.out.alloc _).src rfl (by omega) (by omega) (by omega) HCL.out).mono ?_
    rintro e w3 ⟨k, rfl, hk, s3, g3⟩
    generalize ([-1, 1000001] : List Int).getD k 0 = q
    have xr3 := ((XRH.out.alloc _).step s3 g3).seq q
    have xb := ((XRH.out.alloc _).step s3 g3).box
    have fb0 := xb.frozen 1
    have cb0 := xb.cell 1
    simp [recC] at cb0
    clear xb s3 g3 HCL
    have xf := xr3
    obtain ⟨b0, b1, b2⟩ := (show Blk _ X 25 #[.int .i64 kind, .int .i64 q, .slice (some ⟨g, 0, none⟩) nb c] by have := xf.box; unfold recC at this; dsimp only at this; rw [HNB.out] at this; exact this).thr
    have fr0 := xf.res.frozen 0
    have fr1 := xf.res.frozen 1
    have fr2 := xf.res.frozen 2
    obtain ⟨r0, r1, r2⟩ := xf.res.thr
    have zf := set3_blk xf.res (.int .i64 kind) (.int .i64 q) (.slice (some ⟨g, 0, none⟩) nb c)
    obtain ⟨d0, d1, d2⟩ := zf.thr
    have FF : Hid _ := xf.fin HNB.out
    clear xf zf
    go_wp2
    refine bodyPost_ret (v := .agg #[.int .i64 kind, .int .i64 q, .slice (some ⟨g, 0, none⟩) nb c]) (by simp [results, Try.f25, go_sem, d0, d1, d2]) rfl ?_
    rw [← HP.out]
    exact FF.out

  have hx0 : ((x : Int) == 0) = false := by simpa using h0
  have hx1 : ((x : Int) == 1) = false := by simp; omega
  by_cases h2 : x = 2
  · subst h2
    go_wp2_with fail
    refine (below_step gc n cap a zs 2 w2 XRH.out.src (by omega) (by omega)).mono ?_
    rintro e w3 ⟨y, rfl, hy, s3, g3⟩
    have XR3 : Hid (XR w w3 gc n cap a zs X ⟨kind, seq, body⟩ g c) := XRH.out.step s3 g3
    clear s3 g3
    obtain ⟨i0, hi, hz0, hz1, hz2⟩ := info_parts Try.info5
    obtain ⟨q, hq⟩ : ∃ q, 380 + y = q := ⟨_, rfl⟩
    have hqi : (380 : Int) + (y : Int) = (q : Int) := by omega
    have hm : q ≤ maxLen := by unfold maxLen; omega
    have hby : i0.bytes * q ≤ 281474976710656 := by rw [hz2]; omega
    have hq1 : q ≤ 381 := by omega
    clear hq
    go_wp2_with (at_make; refine wpList_make_full _ rfl (.tmp 23) (.tmp 23) 22 rfl 0 5 i0 (.int .u8 0) 1 Try.underlying22 hi hz0 hz1 .i64 .i64 _ _ q rfl rfl rfl rfl hby hm (Nat.zero_le _) ?_; intro w4 hown hgrow; obtain ⟨xq, xf⟩ := XR3.out.made hgrow hown hq1; have fb2 := xq.box.frozen 2; have cb2 := xq.box.cell 2; obtain ⟨b0, b1, b2⟩ := (show Blk _ X 25 #[.int .i64 kind, .int .i64 seq, .slice (some ⟨w3.heap.size, 0, none⟩) q q] by (have := xf.box; unfold recC at this; dsimp only at this; rw [List.length_replicate] at this; exact this)).thr; have fr0 := xf.res.frozen 0; have fr1 := xf.res.frozen 1; have fr2 := xf.res.frozen 2; obtain ⟨r0, r1, r2⟩ := xf.res.thr; have zf := set3_blk xf.res (.int .i64 kind) (.int .i64 seq) (.slice (some ⟨w3.heap.size, 0, none⟩) q q); obtain ⟨d0, d1, d2⟩ := zf.thr; have FF : Hid _ := xf.fin (List.length_replicate ..); simp [recC] at cb2; clear xf xq zf hown hgrow; dsimp only)
    refine bodyPost_ret (v := .agg #[.int .i64 kind, .int .i64 seq, .slice (some ⟨w3.heap.size, 0, none⟩) q q]) (by simp [results, Try.f25, go_sem, d0, d1, d2]) rfl ?_
    rw [← HP.out]
    exact FF.out
  have hx2 : ((x : Int) == 2) = false := by simp; omega
  have xf := XRH.out
  obtain ⟨b0, b1, b2⟩ := (show Blk _ X 25 #[.int .i64 kind, .int .i64 seq, .slice (some ⟨g, 0, none⟩) nb c] by have := xf.box; unfold recC at this; dsimp only at this; rw [HNB.out] at this; exact this).thr
  have fr0 := xf.res.frozen 0
  have fr1 := xf.res.frozen 1
  have fr2 := xf.res.frozen 2
  obtain ⟨r0, r1, r2⟩ := xf.res.thr
  have zf := set3_blk xf.res (.int .i64 kind) (.int .i64 seq) (.slice (some ⟨g, 0, none⟩) nb c)
  obtain ⟨d0, d1, d2⟩ := zf.thr
  have FF : Hid _ := xf.fin HNB.out
  clear xf zf
  go_wp2
  refine bodyPost_ret (v := .agg #[.int .i64 kind, .int .i64 seq, .slice (some ⟨g, 0, none⟩) nb c]) (by simp [results, Try.f25, go_sem, d0, d1, d2]) rfl ?_
  rw [← HP.out]
  exact FF.out
end
end Go.Proofs.Yteaciccegmichaa
