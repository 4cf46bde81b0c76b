/-
  Joined: DvX, DvP, DvK.
-/
import Derived.Test.YtnhbhpbmnlojlaaGreatDoorJ23W
import Derived.Test.YtnhbhpbmnlojlaaGreatDoorJ22W
import Derived.Test.YtnhbhpbmnlojlaaGreatDoorJ18W
import Derived.Defers
import Derived.Recover
namespace Go.Proofs.YtnhbhpbmnlojlaaGreatDoor
section
open Go.RowKit
/-- An ending of an operation: three kinds. -/
theorem evEnd_cases (cd : Int) (o : Option FtD) : (∃ v, evEnd cd o = .returned v ∧ (v = .nilIface ∨ ∃ c, v = .iface 194 (.int .i64 c))) ∨ evEnd cd o = .panicked [{ v := .iface 194 (.int .i64 10), recovered := false }] := by
  unfold evEnd
  split
  · unfold opEnd
    split
    · exact .inl ⟨_, rfl, .inl rfl⟩
    · split
      · exact .inl ⟨_, rfl, .inr ⟨_, rfl⟩⟩
      · exact .inr rfl
  · rename_i hc
    rw [errV_some hc]
    exact .inl ⟨_, rfl, .inr ⟨_, rfl⟩⟩
end

section
open Go.RowKit
/-- What DevOk asks. -/
noncomputable def devB (ds : List BkD) (ops : Int) (fs : List FtD) : Bool := chipOkB ds && (decide (0 ≤ ops) && decide (ops ≤ 100000)) && faultsB fs
set_option maxRecDepth 100000 in
set_option maxHeartbeats 4000000 in
theorem devOkI (a : Option Addr) (n cap : Nat) (bs : List BkR) (ops : Int) (fa : Option Addr) (m fc : Nat) (fs : List FtD) (down : Bool) (w : World) (ht : CR w a n bs) (hf : FR w fa m fs) :
    Calls Tryz.prog 39 #[.agg #[.slice a n cap, .int .i64 ops, .slice fa m fc, .bool down]] w fun e w' => e = .returned (.bool (devB (bs.map BkR.D) ops fs)) ∧ Below w.heap.size w w' := by
  have B0 : Below w.heap.size w (w.alloc (.cells #[.slice a n cap, .int .i64 ops, .slice fa m fc, .bool down] 37)) := (Below.refl _ w).alloc (Nat.le_refl _) _
  have z0 := Blk.new w 37 #[.slice a n cap, .int .i64 ops, .slice fa m fc, .bool down]
  have hcall := chipOkI a n cap bs (w.alloc (.cells #[.slice a n cap, .int .i64 ops, .slice fa m fc, .bool down] 37)) (ht.keep B0)
  unfold devB
  have hc2 := fun W : World => opsOkI ops W
  have hc3 := fun (W : World) (h : FR W fa m fs) => faultsOkI fa m fc fs W h
  generalize chipOkB (bs.map BkR.D) = p at hcall ⊢
  generalize (decide (0 ≤ ops) && decide (ops ≤ 100000)) = q at hc2 ⊢
  generalize faultsB fs = r at hc3 ⊢
  have HF : Hid _ := hf.keep B0
  have HB : Hid _ := B0
  clear ht hf B0
  go_enter Tryz.func39, Tryz.ntmps39
  go_wp2_with fail
  refine hcall.mono ?_
  rintro e w1 ⟨rfl, hb1⟩
  clear hcall
  have z1 := z0.keep hb1
  have B1 := HB.out.trans (hb1.mono HB.out.size)
  cases p
  · go_wp2
    go_ret
    exact ⟨rfl, B1⟩
  · have y1 := z1.cell 1
    have y2 := z1.cell 2
    simp at y1 y2
    have hc2 := hc2 w1
    have hc3 := hc3 w1 (HF.out.keep hb1)
    clear z0 z1 hb1
    go_wp2_with fail
    refine hc2.mono ?_
    rintro e w2 ⟨rfl, hw⟩
    obtain rfl := hw.symm
    clear hc2
    cases q
    · go_wp2
      go_ret
      exact ⟨rfl, B1⟩
    · go_wp2_with fail
      refine hc3.mono ?_
      rintro e w2 ⟨rfl, hb2⟩
      clear hc3 y1 y2
      go_wp2
      go_ret
      exact ⟨by simp, B1.trans (hb2.mono B1.size)⟩
end

section
open Go.RowKit
/-- What the deferred closure leaves where a panic was caught: the device, off, and its code. -/
def CatA (w : World) (X P4 P5 : Nat) (D : DvD) (w' : World) : Prop := ∃ a n c fa m fc qs, NewDv w' w.heap.size a n c fa m fc D.ds D.fs qs ∧ qs.length = n ∧ Blk w' P4 37 #[.slice a n c, .int .i64 D.ops, .slice fa m fc, .bool true] ∧ Blk w' P5 3 #[.int .i64 10] ∧ Sv [X, P4, P5] w w'
set_option maxRecDepth 100000 in
set_option maxHeartbeats 8000000 in
theorem catchI (X F G n P6 P4 P5 : Nat) (ks : List FkR) (ops : Int) (fa : Option Addr) (m fc : Nat) (fs : List FtD) (down : Bool) (u : TypeId) (pv : Value) (older : List PanicEntry) (w0 w : World) (h : DO w0 w X F G n ks ops fa m fc down) (hfr : FR (w.setCell ⟨X, 3, none⟩ (.bool true)) fa m fs) (hr : ∀ f ∈ ks, ∀ p ∈ f.ps, Rd (w.setCell ⟨X, 3, none⟩ (.bool true)) p.a p.zs) (ht : totB (ks.map FkR.D) ≤ 1048576)
    (h6 : Blk w P6 139 #[.pointer (some ⟨X, 0, none⟩)]) (h4 : Blk w P4 37 #[.slice none 0 0, .int .i64 0, .slice none 0 0, .bool false]) (h5 : Blk w P5 3 #[.int .i64 0]) (n6 : P6 ≠ X) (n4 : P4 ≠ X) (n5 : P5 ≠ X) (n45 : P4 ≠ P5) :
    CallsD Tryz.prog 137 #[.pointer (some ⟨P6, 0, none⟩), .pointer (some ⟨P4, 0, none⟩), .pointer (some ⟨P5, 0, none⟩)] (.panicking ({ v := .iface u pv, recovered := false } :: older)) w fun e u' w' =>
      e = .returned (.tuple #[]) ∧ u' = .panicking ({ v := .iface u pv, recovered := true } :: older) ∧ CatA w X P4 P5 ⟨ks.map FkR.D, ops, fs, true⟩ w' := by
  have x6 := h6.cell 0
  have y3 := h.x.cell 3
  have g3 := h.x.frozen 3
  have hs1 : (w.setCell ⟨X, 3, none⟩ (.bool true)).heap.size = w.heap.size := size_setC _ _ _
  have z6 := h6.other (B' := X) (by omega) 3 (.bool true)
  have z4 := h4.other (B' := X) (by omega) 3 (.bool true)
  have z5 := h5.other (B' := X) (by omega) 3 (.bool true)
  have hcall := dvHandI X F G n ks ops fa m fc fs true w0 _ (h.off (d' := true)) hfr hr ht
  have sv1 := sv_one w X 3 (.bool true)
  have h4lt := h4.lt
  have h5lt := h5.lt
  obtain ⟨w1, hw1⟩ : ∃ w1, w.setCell ⟨X, 3, none⟩ (.bool true) = w1 := ⟨_, rfl⟩
  rw [hw1] at z6 z4 z5 hcall sv1 hs1
  have q6 := z6.cell 0
  simp at x6 y3 q6
  have HSV : Hid _ := sv1
  have HL : Hid (P4 < w.heap.size ∧ P5 < w.heap.size ∧ w1.heap.size = w.heap.size) := ⟨h4lt, h5lt, hs1⟩
  generalize hGP : CatA w X P4 P5 ⟨ks.map FkR.D, ops, fs, true⟩ = P
  have HGP : Hid _ := hGP
  clear hGP hfr hr ht h6 h4 h5 h sv1 h4lt h5lt hs1 z6
  refine callsD_of_wpS Tryz.func137 rfl fun c₀ cs hu => ?_
  apply wpS_seq
  apply wpS_region
  simp [wpOpsS, go_sem, recoverD, hu, Tryz.ntmps137, Exit.thenS]
  refine wpS_cond (t := true) (by simp [Act.eval, Array.replicate]) ?_
  simp only [if_true]
  refine wpS_of_wp ?_
  rw [show (#[Value.pointer (some ⟨P6, 0, none⟩), Value.pointer (some ⟨P4, 0, none⟩), Value.pointer (some ⟨P5, 0, none⟩)] ++ ((Array.replicate 7 undef).setIfInBounds 0 (Value.iface u pv)).setIfInBounds 1 (Value.bool true) : Array Value) = #[Value.pointer (some ⟨P6, 0, none⟩), Value.pointer (some ⟨P4, 0, none⟩), Value.pointer (some ⟨P5, 0, none⟩), Value.iface u pv, Value.bool true, undef, undef, undef, undef, undef] from rfl]
  go_wp2_with fail
  try rw [hw1]
  refine hcall.mono ?_
  rintro e w2 ⟨a1, n1, c1, fa1, m1, fc1, qs, rfl, hd, hl, b2⟩
  dsimp only at hd ⊢
  have t4 := z4.keep b2
  have t5 := z5.keep b2
  clear hcall z4 z5 x6 y3 q6 g3
  have r0 := t4.cell 0
  have r1 := t4.cell 1
  have r2 := t4.cell 2
  have r3 := t4.cell 3
  have f0 := t4.frozen 0
  have f1 := t4.frozen 1
  have f2 := t4.frozen 2
  have f3 := t4.frozen 3
  have zf := (((t4.set 0 (.slice a1 n1 c1)).set 1 (.int .i64 ops)).set 2 (.slice fa1 m1 fc1)).set 3 (.bool true)
  have t5' := (((t5.other (B' := P4) (by omega) 0 (.slice a1 n1 c1)).other (B' := P4) (by omega) 1 (.int .i64 ops)).other (B' := P4) (by omega) 2 (.slice fa1 m1 fc1)).other (B' := P4) (by omega) 3 (.bool true)
  have k0 := t5'.cell 0
  have kf := t5'.frozen 0
  have zf5 := t5'.set 0 (.int .i64 10)
  have zf4 := zf.other (B' := P5) (by omega) 0 (.int .i64 10)
  simp at r0 r1 r2 r3 k0 zf5 zf4
  have HN : Hid _ := And.intro hd (And.intro hl (And.intro zf4 (And.intro zf5 b2)))
  clear hd hl zf4 zf5 t4 t5 t5' zf b2
  go_wp2
  simp [bodyPostS, results, Tryz.results137]
  rw [← HGP.out]
  obtain ⟨hd, hl, z4, z5, b2⟩ := HN.out
  obtain ⟨e4, e5, es⟩ := HL.out
  have k : ∀ (W : World) (j i : Nat) (v : Value), j < w1.heap.size → NewDv W w1.heap.size a1 n1 c1 fa1 m1 fc1 (ks.map FkR.D) fs qs → NewDv (W.setCell ⟨j, i, none⟩ v) w1.heap.size a1 n1 c1 fa1 m1 fc1 (ks.map FkR.D) fs qs := fun W j i v hj h => h.set_below hj
  have hd' := k _ P5 0 (.int .i64 10) (by omega) (k _ P4 3 (.bool true) (by omega) (k _ P4 2 (.slice fa1 m1 fc1) (by omega) (k _ P4 1 (.int .i64 ops) (by omega) (k _ P4 0 (.slice a1 n1 c1) (by omega) hd))))
  have sv2 : Sv [X, P4, P5] w w2 := (HSV.out.wider (by simp)).trans (Below.sv b2 _)
  have s4 : ∀ (W : World) (i : Nat) (v : Value), Sv [X, P4, P5] w W → Sv [X, P4, P5] w (W.setCell ⟨P4, i, none⟩ v) := fun W i v hs => hs.trans ((sv_one W P4 i v).wider (by simp))
  have s5 : ∀ (W : World) (i : Nat) (v : Value), Sv [X, P4, P5] w W → Sv [X, P4, P5] w (W.setCell ⟨P5, i, none⟩ v) := fun W i v hs => hs.trans ((sv_one W P5 i v).wider (by simp))
  exact ⟨a1, n1, c1, fa1, m1, fc1, qs, hd'.wider (by omega), hl, z4, z5, s5 _ _ _ (s4 _ _ _ (s4 _ _ _ (s4 _ _ _ (s4 _ _ _ sv2))))⟩
theorem idleI (P6 P4 P5 : Nat) (w : World) :
    CallsD Tryz.prog 137 #[.pointer (some ⟨P6, 0, none⟩), .pointer (some ⟨P4, 0, none⟩), .pointer (some ⟨P5, 0, none⟩)] .returning w fun e u' w' => e = .returned (.tuple #[]) ∧ u' = .returning ∧ w' = w := by
  refine callsD_of_wpS Tryz.func137 rfl fun c₀ cs hu => ?_
  apply wpS_seq
  apply wpS_region
  simp [wpOpsS, go_sem, recoverD, hu, Tryz.ntmps137, Exit.thenS]
  refine wpS_cond (t := false) (by simp [Act.eval, Array.replicate]) ?_
  simp only [Bool.false_eq_true, if_false]
  refine wpS_of_wp (wp_skip ?_)
  cases c₀
  simp_all [bodyPostS, results, Tryz.results137]
end
end Go.Proofs.YtnhbhpbmnlojlaaGreatDoor
