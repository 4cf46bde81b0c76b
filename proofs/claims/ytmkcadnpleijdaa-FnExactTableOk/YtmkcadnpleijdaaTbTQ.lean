/-
  Tables of volumes: copied, compared, marked, held.
-/
import Derived.Test.YtmkcadnpleijdaaTbKQ
namespace Go.Proofs.Ytmkcadnpleijdaa
open Go.RowKit
set_option maxHeartbeats 3200000 in
theorem toTable_any (nx : Int) (a : Option Addr) (n cap : Nat) (ps : List RwD) (w : World) (hf : WR w a n ps) :
    Calls Try.prog 17 #[.agg #[.int .i64 nx, .slice a n cap]] w fun e w' => ∃ g : Nat, e = .returned (.agg #[.int .i64 nx, .slice (some ⟨g, 0, none⟩) n n]) ∧ w.heap.size ≤ g ∧ OwnRw w' (.slice (some ⟨g, 0, none⟩) n n) n ps ∧ Below w.heap.size w w' := by
  have B0 : Below w.heap.size w (((w.alloc (.cells #[.int .i64 nx, .slice a n cap] 38)).alloc (.cells #[.int .i64 0, .slice none 0 0] 26)).alloc (.cells #[.int .i64 0, .slice none 0 0] 26)) := (((Below.refl _ w).alloc (Nat.le_refl _) _).alloc (by simp) _).alloc (by simp; omega) _
  obtain ⟨H, hH⟩ : ∃ H, w.heap.size = H := ⟨_, rfl⟩
  have z0 : Blk (((w.alloc (.cells #[.int .i64 nx, .slice a n cap] 38)).alloc (.cells #[.int .i64 0, .slice none 0 0] 26)).alloc (.cells #[.int .i64 0, .slice none 0 0] 26)) w.heap.size 38 #[.int .i64 nx, .slice a n cap] := ((Blk.new w 38 _).alloc _).alloc _
  have z1 := (Blk.new (w.alloc (.cells #[.int .i64 nx, .slice a n cap] 38)) 26 #[.int .i64 0, .slice none 0 0]).alloc (.cells #[.int .i64 0, .slice none 0 0] 26)
  have z2 := Blk.new ((w.alloc (.cells #[.int .i64 nx, .slice a n cap] 38)).alloc (.cells #[.int .i64 0, .slice none 0 0] 26)) 26 #[.int .i64 0, .slice none 0 0]
  have hs0 : (((w.alloc (.cells #[.int .i64 nx, .slice a n cap] 38)).alloc (.cells #[.int .i64 0, .slice none 0 0] 26)).alloc (.cells #[.int .i64 0, .slice none 0 0] 26)).heap.size = w.heap.size + 1 + 1 + 1 := by simp
  simp only [World.size_alloc] at z1 z2
  obtain ⟨W0, hW0⟩ : ∃ W, ((w.alloc (.cells #[.int .i64 nx, .slice a n cap] 38)).alloc (.cells #[.int .i64 0, .slice none 0 0] 26)).alloc (.cells #[.int .i64 0, .slice none 0 0] 26) = W := ⟨_, rfl⟩
  rw [hW0] at B0 z0 z1 z2 hs0
  have HF : Hid (WR w a n ps) := hf
  rw [hH] at z0 z1 z2 hs0 B0
  have x0 := z0.cell 0
  have c0 := z2.cell 0
  have f0 := z2.frozen 0
  have u0 := z0.other (B' := H + 1 + 1) (by omega) 0 (.int .i64 nx)
  have u1 := z1.other (B' := H + 1 + 1) (by omega) 0 (.int .i64 nx)
  have u2 := z2.set 0 (.int .i64 nx)
  have a2 := u0.cell 1
  simp at x0 c0 a2 u2
  have hsz1 : (W0.setCell ⟨H + 1 + 1, 0, none⟩ (.int .i64 nx)).heap.size = H + 1 + 1 + 1 := by rw [size_setC, hs0]
  have B3 : Below H w (W0.setCell ⟨H + 1 + 1, 0, none⟩ (.int .i64 nx)) := B0.setCell (p := ⟨H + 1 + 1, 0, none⟩) (by simp only; omega) _
  have hcall2 := toRowS_any a n cap ps (W0.setCell ⟨H + 1 + 1, 0, none⟩ (.int .i64 nx)) (HF.out.keep (by rw [hH]; exact B3))
  have HB3 : Hid _ := B3
  rw [hsz1] at hcall2
  clear B0 B3 z0 z1 z2 hf
  go_enter Try.func17, Try.ntmps17
  go_wp2_with fail
  refine hcall2.mono ?_
  rintro e w2 ⟨rfl, hfo, hb2⟩
  have hb2' : Below (W0.setCell ⟨H + 1 + 1, 0, none⟩ (.int .i64 nx)).heap.size (W0.setCell ⟨H + 1 + 1, 0, none⟩ (.int .i64 nx)) w2 := by rw [hsz1]; exact hb2
  have t0 := u0.keep hb2'
  have t1 := u1.keep hb2'
  have t2 := u2.keep hb2'
  have B4 := HB3.out.trans (hb2.mono (by omega))
  have c2 := t2.cell 1
  have f2 := t2.frozen 1
  have v2 := t2.set 1 (.slice (some ⟨H + 1 + 1 + 1, 0, none⟩) n n)
  have v1 := t1.other (B' := H + 1 + 1) (by omega) 1 (.slice (some ⟨H + 1 + 1 + 1, 0, none⟩) n n)
  have d0 := v2.cell 0
  have d1 := v2.cell 1
  have g0 := v1.cell 0
  have g1 := v1.cell 1
  have h0 := v1.frozen 0
  have h1 := v1.frozen 1
  have vr := (v1.set 0 (.int .i64 nx)).set 1 (.slice (some ⟨H + 1 + 1 + 1, 0, none⟩) n n)
  have r0 := vr.cell 0
  have r1 := vr.cell 1
  simp at c2 d0 d1 g0 g1 r0 r1
  have HN : Hid _ := And.intro hfo B4
  clear B4 hfo hb2 hb2' HB3 hcall2 u0 u1 u2 t0 t1 t2 v1 v2 vr x0 c0 f0 a2
  go_wp2
  refine bodyPost_ret (v := .agg #[.int .i64 nx, .slice (some ⟨H + 1 + 1 + 1, 0, none⟩) n n]) (by simp [results, Try.f17, go_sem, r0, r1]) rfl ?_
  obtain ⟨hnd, B2⟩ := HN.out
  have s : ∀ (W : World) (j i : Nat) (v : Value), H ≤ j → Below H w W → Below H w (W.setCell ⟨j, i, none⟩ v) := fun W j i v hj hb => hb.setCell (p := ⟨j, i, none⟩) hj v
  have k : ∀ (W : World) (j i : Nat) (v : Value), j < H + 1 + 1 + 1 → OwnRw W (.slice (some ⟨H + 1 + 1 + 1, 0, none⟩) n n) n ps → OwnRw (W.setCell ⟨j, i, none⟩ v) (.slice (some ⟨H + 1 + 1 + 1, 0, none⟩) n n) n ps := fun W j i v hj h => OwnE.block h fun g hg => Below.heap_setCell _ _ _ _ (by simp [Value.ownBlock] at hg; subst hg; show H + 1 + 1 + 1 ≠ j; omega)
  refine ⟨H + 1 + 1 + 1, rfl, by omega, k _ _ _ _ (by omega) (k _ _ _ _ (by omega) (k _ _ _ _ (by omega) hnd)), ?_⟩
  rw [hH]
  exact s _ _ _ _ (by omega) (s _ _ _ _ (by omega) (s _ _ _ _ (by omega) B2))
set_option maxHeartbeats 1600000 in
/-- eqTable of two that say the same. -/
theorem eqTable_same (nx : Int) (a a' : Option Addr) (n c c' : Nat) (ps : List RwD) (w : World) (h : WR w a n ps) (h' : WR w a' n ps) :
    Calls Try.prog 18 #[.agg #[.int .i64 nx, .slice a n c], .agg #[.int .i64 nx, .slice a' n c']] w fun e w' => e = .returned (.bool true) ∧ Below w.heap.size w w' := by
  have B0 : Below w.heap.size w ((w.alloc (.cells #[.int .i64 nx, .slice a n c] 26)).alloc (.cells #[.int .i64 nx, .slice a' n c'] 26)) := ((Below.refl _ w).alloc (Nat.le_refl _) _).alloc (by simp) _
  have z0 := (Blk.new w 26 #[.int .i64 nx, .slice a n c]).alloc (.cells #[.int .i64 nx, .slice a' n c'] 26)
  have z1 := Blk.new (w.alloc (.cells #[.int .i64 nx, .slice a n c] 26)) 26 #[.int .i64 nx, .slice a' n c']
  simp only [World.size_alloc] at z1
  have e0 : (nx != nx) = false := by simp
  have hcall := eqRowS_same a a' n c c' ps _ (h.keep B0) (h'.keep B0)
  have q0 := z0.cell 0
  have q1 := z0.cell 1
  have p0 := z1.cell 0
  have p1 := z1.cell 1
  simp at q0 q1 p0 p1
  have HB : Hid _ := B0
  clear h h' B0 z0 z1
  go_enter Try.func18, Try.ntmps18
  go_wp2_with fail
  refine hcall.mono ?_
  rintro e w1 ⟨rfl, hb1⟩
  go_wp2
  go_ret
  exact ⟨rfl, HB.out.trans (hb1.mono HB.out.size)⟩
set_option maxHeartbeats 1600000 in
theorem markTable_any (nx : Int) (a : Option Addr) (n c : Nat) (ps : List RwD) (w : World) (hs : 1 + 5 * n ≤ 9999990) (h : OwnRw w (.slice a n c) n ps) :
    Calls Try.prog 21 #[.agg #[.int .i64 nx, .slice a n c], .int .i64 1] w fun e w' => e = .returned (.int .i64 ((1 + 5 * n : Nat) : Int)) ∧ OwnRw w' (.slice a n c) n (mkRw 1 n) ∧ Sv (Value.slice a n c).ownBlock.toList w w' := by
  have B0 : Below w.heap.size w (w.alloc (.cells #[.int .i64 nx, .slice a n c] 26)) := (Below.refl _ w).alloc (Nat.le_refl _) _
  have hcall := markRowS_any (.slice a n c) n 1 ps (w.alloc (.cells #[.int .i64 nx, .slice a n c] 26)) (Nat.le_refl _) hs (OwnE.keep h B0)
  have HB : Hid _ := B0
  clear h B0
  go_enter Try.func21, Try.ntmps21
  go_wp2_with fail
  refine hcall.mono ?_
  rintro e w1 ⟨rfl, hO, hsv⟩
  clear hcall
  go_wp2
  go_ret
  exact ⟨ret_int (by omega), hO, (Below.sv HB.out _).trans hsv⟩
set_option maxHeartbeats 1600000 in
theorem heldTable_any (nx : Int) (a : Option Addr) (n c : Nat) (w : World) (Q : Nat) (hQ : 1 + 5 * n = Q) (hs : Q ≤ 9999990) (h : OwnRw w (.slice a n c) n (mkRw 1 n)) :
    Calls Try.prog 25 #[.agg #[.int .i64 nx, .slice a n c], .int .i64 1] w fun e w' => e = .returned (.int .i64 (Q : Int)) ∧ Below w.heap.size w w' := by
  have B0 : Below w.heap.size w (w.alloc (.cells #[.int .i64 nx, .slice a n c] 26)) := (Below.refl _ w).alloc (Nat.le_refl _) _
  have hcall := heldRowS_any (.slice a n c) n 1 (w.alloc (.cells #[.int .i64 nx, .slice a n c] 26)) (Nat.le_refl _) (by omega) (OwnE.keep h B0)
  have HB : Hid _ := B0
  rw [hQ] at hcall
  have hQ0 : ¬ (Q : Int) < 0 := by omega
  clear h B0 hQ
  go_enter Try.func25, Try.ntmps25
  go_wp2_with fail
  refine hcall.mono ?_
  rintro e w1 ⟨rfl, b1⟩
  clear hcall
  go_wp2
  go_ret
  exact ⟨rfl, HB.out.trans (b1.mono HB.out.size)⟩
end Go.Proofs.Ytmkcadnpleijdaa

