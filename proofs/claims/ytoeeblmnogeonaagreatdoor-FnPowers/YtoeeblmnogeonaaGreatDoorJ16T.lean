/-
  Joined: DvX, DvP, DvK, DvL.
-/
import Derived.Test.YtoeeblmnogeonaaGreatDoorJ15T
import Derived.Test.YtoeeblmnogeonaaGreatDoorJ11T
import Derived.Defers
import Derived.Recover
namespace Go.Proofs.YtoeeblmnogeonaaGreatDoor
section
open Go.RowKit
/-- An ending of an operation: three kinds. -/
theorem evEnd_cases (cd : Int) (o : Option FtD) : (∃ v, evEnd cd o = .returned v ∧ (v = .nilIface ∨ ∃ c, v = .iface 149 (.int .i64 c))) ∨ evEnd cd o = .panicked [{ v := .iface 149 (.int .i64 10), recovered := false }] := by
  unfold evEnd
  split
  · unfold opEnd
    split
    · exact .inl ⟨_, rfl, .inl rfl⟩
    · split
      · exact .inl ⟨_, rfl, .inr ⟨_, rfl⟩⟩
      · exact .inr rfl
  · rename_i hc
    rw [errV_some hc]
    exact .inl ⟨_, rfl, .inr ⟨_, rfl⟩⟩
end

section
open Go.RowKit
set_option maxRecDepth 100000 in
set_option maxHeartbeats 4000000 in
theorem powerUpI (a : Option Addr) (n cap : Nat) (bs : List BkR) (ops : Int) (fa : Option Addr) (m fc : Nat) (fs : List FtD) (down : Bool) (w : World) (ht : CR w a n bs) (hf : FR w fa m fs) :
    Calls Tryz.prog 22 #[.agg #[.slice a n cap, .int .i64 ops, .slice fa m fc, .bool down]] w (DvA w ⟨bs.map BkR.D, ops, fs, false⟩) := by
  have B0 : Below w.heap.size w ((w.alloc (.cells #[.slice a n cap, .int .i64 ops, .slice fa m fc, .bool down] 29)).alloc (.cells #[.slice none 0 0, .int .i64 0, .slice none 0 0, .bool false] 29)) := ((Below.refl _ w).alloc (Nat.le_refl _) _).alloc (by simp) _
  have z1 := Blk.new (w.alloc (.cells #[.slice a n cap, .int .i64 ops, .slice fa m fc, .bool down] 29)) 29 #[.slice none 0 0, .int .i64 0, .slice none 0 0, .bool false]
  simp only [World.size_alloc] at z1
  have hcall := copyDevI a n cap bs ops fa m fc fs down ((w.alloc (.cells #[.slice a n cap, .int .i64 ops, .slice fa m fc, .bool down] 29)).alloc (.cells #[.slice none 0 0, .int .i64 0, .slice none 0 0, .bool false] 29)) (ht.keep B0) (hf.keep B0)
  have HB : Hid _ := B0
  generalize hGP : DvA w ⟨bs.map BkR.D, ops, fs, false⟩ = P
  have HGP : Hid _ := hGP
  clear ht hf B0 hGP
  obtain ⟨H, hH⟩ : ∃ H, w.heap.size = H := ⟨_, rfl⟩
  have HH : Hid _ := hH
  rw [hH] at z1
  go_enter Tryz.func22, Tryz.ntmps22
  go_wp2_with fail
  obtain ⟨W0, hW0⟩ : ∃ W, (w.alloc (.cells #[.slice a n cap, .int .i64 ops, .slice fa m fc, .bool down] 29)).alloc (.cells #[.slice none 0 0, .int .i64 0, .slice none 0 0, .bool false] 29) = W := ⟨_, rfl⟩
  rw [hW0] at hcall z1 HB ⊢
  clear hW0
  refine hcall.mono ?_
  rintro e w1 ⟨a1, n1, c1, fa1, m1, fc1, qs, rfl, hd, hl, hb1⟩
  dsimp only at hd ⊢
  have hs1 : H + 1 < W0.heap.size := z1.lt
  have B1 := HB.out.trans (hb1.mono HB.out.size)
  have zr0 := z1.keep hb1
  have b2 : Below w1.heap.size w1 (w1.alloc (.cells #[.slice a1 n1 c1, .int .i64 ops, .slice fa1 m1 fc1, .bool down] 29)) := (Below.refl _ w1).alloc (Nat.le_refl _) _
  have zd := Blk.new w1 29 #[.slice a1 n1 c1, .int .i64 ops, .slice fa1 m1 fc1, .bool down]
  have zr1 := zr0.keep b2
  have hd2 := hd.keep b2
  have B2 := B1.trans (b2.mono B1.size)
  have hX := zr0.lt
  obtain ⟨X, hXX⟩ : ∃ X, w1.heap.size = X := ⟨_, rfl⟩
  rw [hXX] at zd hX
  have hlq : ∀ g ∈ fpDv a1 n1 c1 fa1 m1 fc1 qs, g < X := fun g hg => by rw [← hXX]; exact hd.lt g hg
  clear hcall hd
  go_upto_region 2 with fail
  obtain ⟨W2, hW2⟩ : ∃ W, w1.alloc (.cells #[.slice a1 n1 c1, .int .i64 ops, .slice fa1 m1 fc1, .bool down] 29) = W := ⟨_, rfl⟩
  rw [hW2] at zd zr1 hd2 B2 b2 ⊢
  try rw [hXX]
  clear hW2 b2 zr0 B1 hb1 hXX
  have f3 := zd.frozen 3
  have c3 := zd.cell 3
  have zd2 := zd.set 3 (.bool false)
  have zr := zr1.other (B' := X) (by omega) 3 (.bool false)
  have y0 := zd2.cell 0
  have y1 := zd2.cell 1
  have y2 := zd2.cell 2
  have y3 := zd2.cell 3
  have r0 := zr.cell 0
  have r1 := zr.cell 1
  have r2 := zr.cell 2
  have r3 := zr.cell 3
  have g0 := zr.frozen 0
  have g1 := zr.frozen 1
  have g2 := zr.frozen 2
  have g3 := zr.frozen 3
  have zf := (((zr.set 0 (.slice a1 n1 c1)).set 1 (.int .i64 ops)).set 2 (.slice fa1 m1 fc1)).set 3 (.bool false)
  have d0 := zf.cell 0
  have d1 := zf.cell 1
  have d2 := zf.cell 2
  have d3 := zf.cell 3
  simp at c3 y0 y1 y2 y3 r0 r1 r2 r3 d0 d1 d2 d3
  have HN : Hid (NewDv (W2.setCell ⟨X, 3, none⟩ (.bool false)) W0.heap.size a1 n1 c1 fa1 m1 fc1 (bs.map BkR.D) fs qs ∧ qs.length = n1 ∧ Below w.heap.size w (W2.setCell ⟨X, 3, none⟩ (.bool false))) := by
    refine ⟨hd2.svs (F := [X]) (Sv.gr (gr_setC _ X 3 _) (fun g hg => by simp at hg; simp [hg])) (fun g hg hf => ?_), hl, B2.setCell (p := ⟨X, 3, none⟩) (by have := HH.out; simp only; omega) _⟩
    simp at hf
    have := hlq g hg
    omega
  have HS1 : Hid _ := hs1
  clear hd2 hl z1 zr1 zr zf zd zd2 B2 hs1 hlq
  go_wp2
  refine bodyPost_ret (v := .agg #[.slice a1 n1 c1, .int .i64 ops, .slice fa1 m1 fc1, .bool false]) (by simp [results, Tryz.f22, go_sem, d0, d1, d2, d3]) rfl ?_
  rw [← HGP.out]
  obtain ⟨hd, hl, hb⟩ := HN.out
  have h1 := HS1.out
  have hH := HH.out
  have hsz := HB.out.size
  have s : ∀ (W : World) (i : Nat) (v : Value), Below w.heap.size w W → Below w.heap.size w (W.setCell ⟨H + 1, i, none⟩ v) := fun W i v hb => hb.setCell (p := ⟨H + 1, i, none⟩) (by simp only; omega) v
  exact ⟨a1, n1, c1, fa1, m1, fc1, qs, rfl, ((((hd.set_below h1).set_below h1).set_below h1).set_below h1).wider hsz, hl, s _ _ _ (s _ _ _ (s _ _ _ (s _ _ _ hb)))⟩
/-- What DevOk asks. -/
noncomputable def devB (ds : List BkD) (ops : Int) (fs : List FtD) : Bool := chipOkB ds && (decide (0 ≤ ops) && decide (ops ≤ 100000)) && faultsB fs
set_option maxRecDepth 100000 in
set_option maxHeartbeats 4000000 in
theorem devOkI (a : Option Addr) (n cap : Nat) (bs : List BkR) (ops : Int) (fa : Option Addr) (m fc : Nat) (fs : List FtD) (down : Bool) (w : World) (ht : CR w a n bs) (hf : FR w fa m fs) :
    Calls Tryz.prog 17 #[.agg #[.slice a n cap, .int .i64 ops, .slice fa m fc, .bool down]] w fun e w' => e = .returned (.bool (devB (bs.map BkR.D) ops fs)) ∧ Below w.heap.size w w' := by
  have B0 : Below w.heap.size w (w.alloc (.cells #[.slice a n cap, .int .i64 ops, .slice fa m fc, .bool down] 29)) := (Below.refl _ w).alloc (Nat.le_refl _) _
  have z0 := Blk.new w 29 #[.slice a n cap, .int .i64 ops, .slice fa m fc, .bool down]
  have hcall := chipOkI a n cap bs (w.alloc (.cells #[.slice a n cap, .int .i64 ops, .slice fa m fc, .bool down] 29)) (ht.keep B0)
  unfold devB
  have hc2 := fun W : World => opsOkI ops W
  have hc3 := fun (W : World) (h : FR W fa m fs) => faultsOkI fa m fc fs W h
  generalize chipOkB (bs.map BkR.D) = p at hcall ⊢
  generalize (decide (0 ≤ ops) && decide (ops ≤ 100000)) = q at hc2 ⊢
  generalize faultsB fs = r at hc3 ⊢
  have HF : Hid _ := hf.keep B0
  have HB : Hid _ := B0
  clear ht hf B0
  go_enter Tryz.func17, Tryz.ntmps17
  go_wp2_with fail
  refine hcall.mono ?_
  rintro e w1 ⟨rfl, hb1⟩
  clear hcall
  have z1 := z0.keep hb1
  have B1 := HB.out.trans (hb1.mono HB.out.size)
  cases p
  · go_wp2
    go_ret
    exact ⟨rfl, B1⟩
  · have y1 := z1.cell 1
    have y2 := z1.cell 2
    simp at y1 y2
    have hc2 := hc2 w1
    have hc3 := hc3 w1 (HF.out.keep hb1)
    clear z0 z1 hb1
    go_wp2_with fail
    refine hc2.mono ?_
    rintro e w2 ⟨rfl, hw⟩
    obtain rfl := hw.symm
    clear hc2
    cases q
    · go_wp2
      go_ret
      exact ⟨rfl, B1⟩
    · go_wp2_with fail
      refine hc3.mono ?_
      rintro e w2 ⟨rfl, hb2⟩
      clear hc3 y1 y2
      go_wp2
      go_ret
      exact ⟨by simp, B1.trans (hb2.mono B1.size)⟩
end

section
open Go.RowKit
/-- What the deferred closure leaves where a panic was caught: the device, off, and its code. -/
def CatA (w : World) (X P4 P5 : Nat) (D : DvD) (w' : World) : Prop := ∃ a n c fa m fc qs, NewDv w' w.heap.size a n c fa m fc D.ds D.fs qs ∧ qs.length = n ∧ Blk w' P4 29 #[.slice a n c, .int .i64 D.ops, .slice fa m fc, .bool true] ∧ Blk w' P5 3 #[.int .i64 10] ∧ Sv [X, P4, P5] w w'
set_option maxRecDepth 100000 in
set_option maxHeartbeats 8000000 in
theorem catchI (X F G n P6 P4 P5 : Nat) (ks : List FkR) (ops : Int) (fa : Option Addr) (m fc : Nat) (fs : List FtD) (down : Bool) (u : TypeId) (pv : Value) (older : List PanicEntry) (w0 w : World) (h : DO w0 w X F G n ks ops fa m fc down) (hfr : FR (w.setCell ⟨X, 3, none⟩ (.bool true)) fa m fs) (hr : ∀ f ∈ ks, ∀ p ∈ f.ps, Rd (w.setCell ⟨X, 3, none⟩ (.bool true)) p.a p.zs) (ht : totB (ks.map FkR.D) ≤ 1048576)
    (h6 : Blk w P6 82 #[.pointer (some ⟨X, 0, none⟩)]) (h4 : Blk w P4 29 #[.slice none 0 0, .int .i64 0, .slice none 0 0, .bool false]) (h5 : Blk w P5 3 #[.int .i64 0]) (n6 : P6 ≠ X) (n4 : P4 ≠ X) (n5 : P5 ≠ X) (n45 : P4 ≠ P5) :
    CallsD Tryz.prog 95 #[.pointer (some ⟨P6, 0, none⟩), .pointer (some ⟨P4, 0, none⟩), .pointer (some ⟨P5, 0, none⟩)] (.panicking ({ v := .iface u pv, recovered := false } :: older)) w fun e u' w' =>
      e = .returned (.tuple #[]) ∧ u' = .panicking ({ v := .iface u pv, recovered := true } :: older) ∧ CatA w X P4 P5 ⟨ks.map FkR.D, ops, fs, true⟩ w' := by
  have x6 := h6.cell 0
  have y3 := h.x.cell 3
  have g3 := h.x.frozen 3
  have hs1 : (w.setCell ⟨X, 3, none⟩ (.bool true)).heap.size = w.heap.size := size_setC _ _ _
  have z6 := h6.other (B' := X) (by omega) 3 (.bool true)
  have z4 := h4.other (B' := X) (by omega) 3 (.bool true)
  have z5 := h5.other (B' := X) (by omega) 3 (.bool true)
  have hcall := dvHandI X F G n ks ops fa m fc fs true w0 _ (h.off (d' := true)) hfr hr ht
  have sv1 := sv_one w X 3 (.bool true)
  have h4lt := h4.lt
  have h5lt := h5.lt
  obtain ⟨w1, hw1⟩ : ∃ w1, w.setCell ⟨X, 3, none⟩ (.bool true) = w1 := ⟨_, rfl⟩
  rw [hw1] at z6 z4 z5 hcall sv1 hs1
  have q6 := z6.cell 0
  simp at x6 y3 q6
  have HSV : Hid _ := sv1
  have HL : Hid (P4 < w.heap.size ∧ P5 < w.heap.size ∧ w1.heap.size = w.heap.size) := ⟨h4lt, h5lt, hs1⟩
  generalize hGP : CatA w X P4 P5 ⟨ks.map FkR.D, ops, fs, true⟩ = P
  have HGP : Hid _ := hGP
  clear hGP hfr hr ht h6 h4 h5 h sv1 h4lt h5lt hs1 z6
  refine callsD_of_wpS Tryz.func95 rfl fun c₀ cs hu => ?_
  apply wpS_seq
  apply wpS_region
  simp [wpOpsS, go_sem, recoverD, hu, Tryz.ntmps95, Exit.thenS]
  refine wpS_cond (t := true) (by simp [Act.eval, Array.replicate]) ?_
  simp only [if_true]
  refine wpS_of_wp ?_
  rw [show (#[Value.pointer (some ⟨P6, 0, none⟩), Value.pointer (some ⟨P4, 0, none⟩), Value.pointer (some ⟨P5, 0, none⟩)] ++ ((Array.replicate 7 undef).setIfInBounds 0 (Value.iface u pv)).setIfInBounds 1 (Value.bool true) : Array Value) = #[Value.pointer (some ⟨P6, 0, none⟩), Value.pointer (some ⟨P4, 0, none⟩), Value.pointer (some ⟨P5, 0, none⟩), Value.iface u pv, Value.bool true, undef, undef, undef, undef, undef] from rfl]
  go_wp2_with fail
  try rw [hw1]
  refine hcall.mono ?_
  rintro e w2 ⟨a1, n1, c1, fa1, m1, fc1, qs, rfl, hd, hl, b2⟩
  dsimp only at hd ⊢
  have t4 := z4.keep b2
  have t5 := z5.keep b2
  clear hcall z4 z5 x6 y3 q6 g3
  have r0 := t4.cell 0
  have r1 := t4.cell 1
  have r2 := t4.cell 2
  have r3 := t4.cell 3
  have f0 := t4.frozen 0
  have f1 := t4.frozen 1
  have f2 := t4.frozen 2
  have f3 := t4.frozen 3
  have zf := (((t4.set 0 (.slice a1 n1 c1)).set 1 (.int .i64 ops)).set 2 (.slice fa1 m1 fc1)).set 3 (.bool true)
  have t5' := (((t5.other (B' := P4) (by omega) 0 (.slice a1 n1 c1)).other (B' := P4) (by omega) 1 (.int .i64 ops)).other (B' := P4) (by omega) 2 (.slice fa1 m1 fc1)).other (B' := P4) (by omega) 3 (.bool true)
  have k0 := t5'.cell 0
  have kf := t5'.frozen 0
  have zf5 := t5'.set 0 (.int .i64 10)
  have zf4 := zf.other (B' := P5) (by omega) 0 (.int .i64 10)
  simp at r0 r1 r2 r3 k0 zf5 zf4
  have HN : Hid _ := And.intro hd (And.intro hl (And.intro zf4 (And.intro zf5 b2)))
  clear hd hl zf4 zf5 t4 t5 t5' zf b2
  go_wp2
  simp [bodyPostS, results, Tryz.results95]
  rw [← HGP.out]
  obtain ⟨hd, hl, z4, z5, b2⟩ := HN.out
  obtain ⟨e4, e5, es⟩ := HL.out
  have k : ∀ (W : World) (j i : Nat) (v : Value), j < w1.heap.size → NewDv W w1.heap.size a1 n1 c1 fa1 m1 fc1 (ks.map FkR.D) fs qs → NewDv (W.setCell ⟨j, i, none⟩ v) w1.heap.size a1 n1 c1 fa1 m1 fc1 (ks.map FkR.D) fs qs := fun W j i v hj h => h.set_below hj
  have hd' := k _ P5 0 (.int .i64 10) (by omega) (k _ P4 3 (.bool true) (by omega) (k _ P4 2 (.slice fa1 m1 fc1) (by omega) (k _ P4 1 (.int .i64 ops) (by omega) (k _ P4 0 (.slice a1 n1 c1) (by omega) hd))))
  have sv2 : Sv [X, P4, P5] w w2 := (HSV.out.wider (by simp)).trans (Below.sv b2 _)
  have s4 : ∀ (W : World) (i : Nat) (v : Value), Sv [X, P4, P5] w W → Sv [X, P4, P5] w (W.setCell ⟨P4, i, none⟩ v) := fun W i v hs => hs.trans ((sv_one W P4 i v).wider (by simp))
  have s5 : ∀ (W : World) (i : Nat) (v : Value), Sv [X, P4, P5] w W → Sv [X, P4, P5] w (W.setCell ⟨P5, i, none⟩ v) := fun W i v hs => hs.trans ((sv_one W P5 i v).wider (by simp))
  exact ⟨a1, n1, c1, fa1, m1, fc1, qs, hd'.wider (by omega), hl, z4, z5, s5 _ _ _ (s4 _ _ _ (s4 _ _ _ (s4 _ _ _ (s4 _ _ _ sv2))))⟩
theorem idleI (P6 P4 P5 : Nat) (w : World) :
    CallsD Tryz.prog 95 #[.pointer (some ⟨P6, 0, none⟩), .pointer (some ⟨P4, 0, none⟩), .pointer (some ⟨P5, 0, none⟩)] .returning w fun e u' w' => e = .returned (.tuple #[]) ∧ u' = .returning ∧ w' = w := by
  refine callsD_of_wpS Tryz.func95 rfl fun c₀ cs hu => ?_
  apply wpS_seq
  apply wpS_region
  simp [wpOpsS, go_sem, recoverD, hu, Tryz.ntmps95, Exit.thenS]
  refine wpS_cond (t := false) (by simp [Act.eval, Array.replicate]) ?_
  simp only [Bool.false_eq_true, if_false]
  refine wpS_of_wp (wp_skip ?_)
  cases c₀
  simp_all [bodyPostS, results, Tryz.results95]
end

section
open Go.RowKit
/-- The code of an operation that is to begin. -/
noncomputable def evCode (ds : List BkD) (ops : Int) (fs : List FtD) (down : Bool) (c : Int) : Int := if devB ds ops fs = false then 1 else if down = true ∨ 100000 ≤ ops then 10 else c
def outDs (cd : Int) (o : Option FtD) (ds a b : List BkD) (t : Int → List BkD) : List BkD := if cd = 0 then (match o with | none => a | some f => if f.kd = 1 then b else t f.kp) else ds
def outOps (cd ops : Int) : Int := if cd = 0 then ops + 1 else ops
def outDown (cd : Int) (o : Option FtD) (down : Bool) : Bool := if cd = 0 then (match o with | none => down | some f => if f.kd = 1 then down else true) else down
def outCode (cd : Int) (o : Option FtD) : Int := if cd = 0 then (match o with | none => 0 | some f => if f.kd = 1 then 2 else 10) else cd
/-- A new device and a code were answered. -/
def DvCA (w : World) (D : DvD) (code : Int) (e : Ending) (w' : World) : Prop := ∃ a n c fa m fc qs, e = .returned (.tuple #[.agg #[.slice a n c, .int .i64 D.ops, .slice fa m fc, .bool D.down], .int .i64 code]) ∧ NewDv w' w.heap.size a n c fa m fc D.ds D.fs qs ∧ qs.length = n ∧ Below w.heap.size w w'
/-- The power goes. -/
def panD (cd : Int) (o : Option FtD) : Prop := cd = 0 ∧ ∃ f, o = some f ∧ ¬ f.kd = 1
theorem evEnd_ret {cd : Int} {o : Option FtD} (h : ¬ panD cd o) : evEnd cd o = .returned (errV (outCode cd o)) ∧ ∀ d, outDown cd o d = d := by
  unfold evEnd outCode outDown
  by_cases hc : cd = 0
  · subst hc
    cases o with
    | none => exact ⟨rfl, fun _ => rfl⟩
    | some f =>
      by_cases h1 : f.kd = 1
      · simp [opEnd, h1, errV]
      · exact absurd ⟨rfl, f, rfl, h1⟩ h
  · simp [hc]
theorem evEnd_pan {cd : Int} {o : Option FtD} (h : panD cd o) : evEnd cd o = .panicked [{ v := .iface 149 (.int .i64 10), recovered := false }] ∧ outCode cd o = 10 ∧ ∀ d, outDown cd o d = true := by
  obtain ⟨rfl, f, rfl, h1⟩ := h
  simp [evEnd, opEnd, outCode, outDown, h1]
theorem opK_D (cd : Int) (o : Option FtD) (ks a b : List FkR) (c : Int → List FkR) : (if cd = 0 then opK a b c o else ks).map FkR.D = outDs cd o (ks.map FkR.D) (a.map FkR.D) (b.map FkR.D) (fun t => (c t).map FkR.D) := by
  unfold outDs
  split
  · unfold opK
    cases o with
    | none => rfl
    | some f => dsimp only; split <;> rfl
  · rfl
theorem opK_all {P : List FkR → Prop} (cd : Int) (o : Option FtD) {ks a b : List FkR} {c : Int → List FkR} (h0 : P ks) (h1 : P a) (h2 : P b) (h3 : ∀ t, P (c t)) : P (if cd = 0 then opK a b c o else ks) := by
  split
  · unfold opK
    cases o with
    | none => exact h1
    | some f =>
      dsimp only
      split
      · exact h2
      · exact h3 _
  · exact h0
/-- What handedOut asks of a flash's blocks. -/
def FlGood (w : World) (ks : List FkR) : Prop := (∀ f ∈ ks, ∀ p ∈ f.ps, Rd w p.a p.zs) ∧ totB (ks.map FkR.D) ≤ 1048576
theorem FlGood.set {w : World} {ks : List FkR} {k : Nat} {f g : FkR} (h : FlGood w ks) (hk : ks[k]? = some f) (hp : ∀ p ∈ g.ps, Rd w p.a p.zs) (ht : totP (g.ps.map PgR.D) ≤ totP (f.ps.map PgR.D)) : FlGood w (ks.set k g) := by
  refine ⟨fun f' hf' p hp' => ?_, ?_⟩
  · rcases List.mem_or_eq_of_mem_set hf' with h1 | h1
    · exact h.1 f' h1 p hp'
    · subst h1; exact hp p hp'
  · rw [List.map_set]
    exact Nat.le_trans (totB_set _ _ f.D _ (by rw [List.getElem?_map, hk]; rfl) ht) h.2
theorem totP_eight (f : FkR) : 8 ≤ totP (f.ps.map PgR.D) := by
  have := totP_len (f.ps.map PgR.D)
  have h8 := f.h8
  simp only [List.length_map] at this
  omega
theorem FlGood.bad {w : World} {ks : List FkR} (k : Nat) (h : FlGood w ks) : FlGood w (badAt ks k) := by
  unfold badAt
  split
  · rename_i f hf
    exact h.set hf (fun p hp => h.1 f (List.mem_of_getElem? hf) p hp) (Nat.le_refl _)
  · exact h
theorem totP_T (j : Nat) : totP ((pgsT j).map PgR.D) = 8 := by
  have : (pgsT j).map PgR.D = (List.range 8).map fun i => (⟨decide (i < j), []⟩ : PgD) := by
    unfold pgsT
    rw [List.map_map]
    refine List.map_congr_left fun i _ => ?_
    simp only [Function.comp]
    by_cases h : i < j
    · rw [if_pos h]; simp [pgU, PgR.D, h]
    · rw [if_neg h]; simp [pgZ, PgR.D, h]
  rw [this]
  simp only [totP, List.map_map, Function.comp_def, List.length_nil]
  rfl
theorem FlGood.torn {w : World} {ks : List FkR} (k : Nat) (kp : Int) (h : FlGood w ks) : FlGood w (tornAt ks k kp) := by
  unfold tornAt
  split
  · rename_i f hf
    refine h.set hf (fun p hp => ?_) ?_
    · obtain ⟨i, _, hi⟩ := List.mem_map.1 (show p ∈ pgsT (min kp.toNat 8) from hp)
      subst hi
      split
      · exact .inl rfl
      · exact .inl rfl
    · have := totP_eight f
      show totP ((pgsT (min kp.toNat 8)).map PgR.D) ≤ _
      rw [totP_T]
      omega
  · exact h
theorem FlGood.keep {w w' : World} {ks : List FkR} (h : FlGood w ks) (hb : Below w.heap.size w w') : FlGood w' ks := ⟨fun f hf p hp => (h.1 f hf p hp).keep hb, h.2⟩
/-- The chip whose block turned bad; was erased in part. -/
def badD (ds : List BkD) (k : Nat) : List BkD := match ds[k]? with | some b => ds.set k ⟨b.ps, b.wear, true⟩ | none => ds
theorem badAt_D (ks : List FkR) (k : Nat) : (badAt ks k).map FkR.D = badD (ks.map FkR.D) k := by
  unfold badAt badD
  rw [List.getElem?_map]
  cases hk : ks[k]? with
  | none => rfl
  | some f => simp only [Option.map_some]; rw [List.map_set]; rfl
theorem outs_no {cd c ops : Int} {o : Option FtD} {ds a b : List BkD} {t : Int → List BkD} {fs : List FtD} {down : Bool} {w : World} (h : cd = c) (hc : c ≠ 0) : DvCA w ⟨outDs cd o ds a b t, outOps cd ops, fs, outDown cd o down⟩ (outCode cd o) = DvCA w ⟨ds, ops, fs, down⟩ c := by
  subst h
  simp [outDs, outOps, outDown, outCode, hc]
end
end Go.Proofs.YtoeeblmnogeonaaGreatDoor
