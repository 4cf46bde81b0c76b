/-
  Joined: DvL, DvY, DvZ.
-/
import Derived.Test.YtnhbhpbmnlojlaaGreatDoorJ24W
import Derived.Test.YtnhbhpbmnlojlaaGreatDoorJ19W
namespace Go.Proofs.YtnhbhpbmnlojlaaGreatDoor
section
open Go.RowKit
/-- The code of an operation that is to begin. -/
noncomputable def evCode (ds : List BkD) (ops : Int) (fs : List FtD) (down : Bool) (c : Int) : Int := if devB ds ops fs = false then 1 else if down = true ∨ 100000 ≤ ops then 10 else c
def outDs (cd : Int) (o : Option FtD) (ds a b : List BkD) (t : Int → List BkD) : List BkD := if cd = 0 then (match o with | none => a | some f => if f.kd = 1 then b else t f.kp) else ds
def outOps (cd ops : Int) : Int := if cd = 0 then ops + 1 else ops
def outDown (cd : Int) (o : Option FtD) (down : Bool) : Bool := if cd = 0 then (match o with | none => down | some f => if f.kd = 1 then down else true) else down
def outCode (cd : Int) (o : Option FtD) : Int := if cd = 0 then (match o with | none => 0 | some f => if f.kd = 1 then 2 else 10) else cd
/-- A new device and a code were answered. -/
def DvCA (w : World) (D : DvD) (code : Int) (e : Ending) (w' : World) : Prop := ∃ a n c fa m fc qs, e = .returned (.tuple #[.agg #[.slice a n c, .int .i64 D.ops, .slice fa m fc, .bool D.down], .int .i64 code]) ∧ NewDv w' w.heap.size a n c fa m fc D.ds D.fs qs ∧ qs.length = n ∧ Below w.heap.size w w'
/-- The power goes. -/
def panD (cd : Int) (o : Option FtD) : Prop := cd = 0 ∧ ∃ f, o = some f ∧ ¬ f.kd = 1
theorem evEnd_ret {cd : Int} {o : Option FtD} (h : ¬ panD cd o) : evEnd cd o = .returned (errV (outCode cd o)) ∧ ∀ d, outDown cd o d = d := by
  unfold evEnd outCode outDown
  by_cases hc : cd = 0
  · subst hc
    cases o with
    | none => exact ⟨rfl, fun _ => rfl⟩
    | some f =>
      by_cases h1 : f.kd = 1
      · simp [opEnd, h1, errV]
      · exact absurd ⟨rfl, f, rfl, h1⟩ h
  · simp [hc]
theorem evEnd_pan {cd : Int} {o : Option FtD} (h : panD cd o) : evEnd cd o = .panicked [{ v := .iface 194 (.int .i64 10), recovered := false }] ∧ outCode cd o = 10 ∧ ∀ d, outDown cd o d = true := by
  obtain ⟨rfl, f, rfl, h1⟩ := h
  simp [evEnd, opEnd, outCode, outDown, h1]
theorem opK_D (cd : Int) (o : Option FtD) (ks a b : List FkR) (c : Int → List FkR) : (if cd = 0 then opK a b c o else ks).map FkR.D = outDs cd o (ks.map FkR.D) (a.map FkR.D) (b.map FkR.D) (fun t => (c t).map FkR.D) := by
  unfold outDs
  split
  · unfold opK
    cases o with
    | none => rfl
    | some f => dsimp only; split <;> rfl
  · rfl
theorem opK_all {P : List FkR → Prop} (cd : Int) (o : Option FtD) {ks a b : List FkR} {c : Int → List FkR} (h0 : P ks) (h1 : P a) (h2 : P b) (h3 : ∀ t, P (c t)) : P (if cd = 0 then opK a b c o else ks) := by
  split
  · unfold opK
    cases o with
    | none => exact h1
    | some f =>
      dsimp only
      split
      · exact h2
      · exact h3 _
  · exact h0
/-- What handedOut asks of a flash's blocks. -/
def FlGood (w : World) (ks : List FkR) : Prop := (∀ f ∈ ks, ∀ p ∈ f.ps, Rd w p.a p.zs) ∧ totB (ks.map FkR.D) ≤ 1048576
theorem FlGood.set {w : World} {ks : List FkR} {k : Nat} {f g : FkR} (h : FlGood w ks) (hk : ks[k]? = some f) (hp : ∀ p ∈ g.ps, Rd w p.a p.zs) (ht : totP (g.ps.map PgR.D) ≤ totP (f.ps.map PgR.D)) : FlGood w (ks.set k g) := by
  refine ⟨fun f' hf' p hp' => ?_, ?_⟩
  · rcases List.mem_or_eq_of_mem_set hf' with h1 | h1
    · exact h.1 f' h1 p hp'
    · subst h1; exact hp p hp'
  · rw [List.map_set]
    exact Nat.le_trans (totB_set _ _ f.D _ (by rw [List.getElem?_map, hk]; rfl) ht) h.2
theorem FlGood.bad {w : World} {ks : List FkR} (k : Nat) (h : FlGood w ks) : FlGood w (badAt ks k) := by
  unfold badAt
  split
  · rename_i f hf
    exact h.set hf (fun p hp => h.1 f (List.mem_of_getElem? hf) p hp) (Nat.le_refl _)
  · exact h
theorem FlGood.keep {w w' : World} {ks : List FkR} (h : FlGood w ks) (hb : Below w.heap.size w w') : FlGood w' ks := ⟨fun f hf p hp => (h.1 f hf p hp).keep hb, h.2⟩
/-- The chip whose block turned bad; was erased in part. -/
def badD (ds : List BkD) (k : Nat) : List BkD := match ds[k]? with | some b => ds.set k ⟨b.ps, b.wear, true⟩ | none => ds
theorem badAt_D (ks : List FkR) (k : Nat) : (badAt ks k).map FkR.D = badD (ks.map FkR.D) k := by
  unfold badAt badD
  rw [List.getElem?_map]
  cases hk : ks[k]? with
  | none => rfl
  | some f => simp only [Option.map_some]; rw [List.map_set]; rfl
theorem outs_no {cd c ops : Int} {o : Option FtD} {ds a b : List BkD} {t : Int → List BkD} {fs : List FtD} {down : Bool} {w : World} (h : cd = c) (hc : c ≠ 0) : DvCA w ⟨outDs cd o ds a b t, outOps cd ops, fs, outDown cd o down⟩ (outCode cd o) = DvCA w ⟨ds, ops, fs, down⟩ c := by
  subst h
  simp [outDs, outOps, outDown, outCode, hc]
end

section
open Go.RowKit
set_option maxRecDepth 100000 in
set_option maxHeartbeats 4000000 in
theorem cPrPartI (F G n k : Nat) (fs : List FkR) (f : FkR) (gb nb cb : Nat) (zs : List Int) (kp : Int) (w0 w : World) (hz : zs.length = nb) (h : FO w0 w F G n fs) (hf : fs[k]? = some f) (h8 : fkN f < 8) (hr : ∀ p ∈ f.ps, Rd w p.a p.zs) (htp : totP (f.ps.map PgR.D) ≤ 1048576) (hnb : nb ≤ cb ∧ nb ≤ 1048576) (hk : 0 ≤ kp ∧ kp ≤ 400) :
    Calls Tryz.prog 145 #[.pointer (some ⟨G, k * 18, none⟩), .slice (some ⟨gb, 0, none⟩) nb cb, .int .i64 kp] w (FOA w0 w F G n (prAt fs k ⟨true, (some ⟨gb, 0, none⟩), cb, zs.take kp.toNat⟩)) := by
  obtain ⟨q, rfl⟩ : ∃ q : Nat, kp = (q : Int) := ⟨kp.toNat, by omega⟩
  rw [Int.toNat_natCast]
  by_cases hq : q ≤ nb
  · have hqi : (q : Int) ≤ (nb : Int) := by omega
    have hqj : ¬ (nb : Int) < (q : Int) := by omega
    have hmi : min (q : Int) (nb : Int) = (q : Int) := by omega
    have hzt : (zs.take q).length = q := by rw [List.length_take, hz]; omega
    have hcall := cProgI F G n k fs f (some ⟨gb, 0, none⟩) q cb (zs.take q) w0 w hzt h hf h8 hr htp
    generalize hGP : FOA w0 w F G n (prAt fs k ⟨true, (some ⟨gb, 0, none⟩), cb, zs.take q⟩) = P at hcall ⊢
    have HGP : Hid _ := hGP
    clear h hf h8 hr htp hzt hz hGP hk
    go_enter Tryz.func145, Tryz.ntmps145
    go_wp2_with fail
    refine hcall.mono ?_
    intro e w1 hA
    rw [← HGP.out] at hA
    obtain ⟨rfl, h1, h2⟩ := hA
    go_wp2
    try go_end0
    rw [← HGP.out]
    exact ⟨rfl, h1, h2⟩
  · have hqi : ¬ (q : Int) ≤ (nb : Int) := by omega
    have hqj : (nb : Int) < (q : Int) := by omega
    have hmi : min (q : Int) (nb : Int) = (nb : Int) := by omega
    have hzt : zs.length = nb := hz
    rw [List.take_of_length_le (by omega)]
    have hcall := cProgI F G n k fs f (some ⟨gb, 0, none⟩) nb cb (zs) w0 w hzt h hf h8 hr htp
    generalize hGP : FOA w0 w F G n (prAt fs k ⟨true, (some ⟨gb, 0, none⟩), cb, zs⟩) = P at hcall ⊢
    have HGP : Hid _ := hGP
    clear h hf h8 hr htp hzt hz hGP hk
    go_enter Tryz.func145, Tryz.ntmps145
    go_wp2_with fail
    refine hcall.mono ?_
    intro e w1 hA
    rw [← HGP.out] at hA
    obtain ⟨rfl, h1, h2⟩ := hA
    go_wp2
    try go_end0
    rw [← HGP.out]
    exact ⟨rfl, h1, h2⟩
set_option maxHeartbeats 1600000 in
theorem prC1I (F G n k K Q : Nat) (fs : List FkR) (f : FkR) (gb nb cb : Nat) (zs : List Int) (w0 w : World) (hz : zs.length = nb) (h : FO w0 w F G n fs) (hf : fs[k]? = some f) (h8 : fkN f < 8) (hr : ∀ p ∈ f.ps, Rd w p.a p.zs) (htp : totP (f.ps.map PgR.D) ≤ 1048576) (hK : Blk w K 176 #[.pointer (some ⟨G, k * 18, none⟩)]) (hQ : Blk w Q 30 #[.slice (some ⟨gb, 0, none⟩) nb cb]) :
    Calls Tryz.prog 142 #[.pointer (some ⟨K, 0, none⟩), .pointer (some ⟨Q, 0, none⟩)] w (FOA w0 w F G n (prAt fs k ⟨true, (some ⟨gb, 0, none⟩), cb, zs⟩)) := by
  have hcall := cProgI F G n k fs f (some ⟨gb, 0, none⟩) nb cb zs w0 w hz h hf h8 hr htp
  have x0 := hK.cell 0
  have x1 := hQ.cell 0
  simp at x0 x1
  generalize hGP : FOA w0 w F G n (prAt fs k ⟨true, (some ⟨gb, 0, none⟩), cb, zs⟩) = P at hcall ⊢
  have HGP : Hid _ := hGP
  clear hGP h hf h8 hr htp hK hQ hz
  go_enter Tryz.func142, Tryz.ntmps142
  go_wp2_with fail
  refine hcall.mono ?_
  intro e w1 hA
  rw [← HGP.out] at hA
  obtain ⟨rfl, h1, h2⟩ := hA
  go_wp2
  try go_end0
  rw [← HGP.out]
  exact ⟨rfl, h1, h2⟩
set_option maxHeartbeats 1600000 in
theorem prC2I (F G n k K Q : Nat) (fs : List FkR) (f : FkR) (gb nb cb : Nat) (zs : List Int) (kp : Int) (w0 w : World) (hz : zs.length = nb) (h : FO w0 w F G n fs) (hf : fs[k]? = some f) (h8 : fkN f < 8) (hr : ∀ p ∈ f.ps, Rd w p.a p.zs) (htp : totP (f.ps.map PgR.D) ≤ 1048576) (hnb : nb ≤ cb ∧ nb ≤ 1048576) (hk : 0 ≤ kp ∧ kp ≤ 400) (hK : Blk w K 176 #[.pointer (some ⟨G, k * 18, none⟩)]) (hQ : Blk w Q 30 #[.slice (some ⟨gb, 0, none⟩) nb cb]) :
    Calls Tryz.prog 144 #[.int .i64 kp, .pointer (some ⟨K, 0, none⟩), .pointer (some ⟨Q, 0, none⟩)] w (FOA w0 w F G n (prAt fs k ⟨true, (some ⟨gb, 0, none⟩), cb, zs.take kp.toNat⟩)) := by
  have hcall := cPrPartI F G n k fs f gb nb cb zs kp w0 w hz h hf h8 hr htp hnb hk
  have x0 := hK.cell 0
  have x1 := hQ.cell 0
  simp at x0 x1
  generalize hGP : FOA w0 w F G n (prAt fs k ⟨true, (some ⟨gb, 0, none⟩), cb, zs.take kp.toNat⟩) = P at hcall ⊢
  have HGP : Hid _ := hGP
  clear hGP h hf h8 hr htp hK hQ hz hk
  go_enter Tryz.func144, Tryz.ntmps144
  go_wp2_with fail
  refine hcall.mono ?_
  intro e w1 hA
  rw [← HGP.out] at hA
  obtain ⟨rfl, h1, h2⟩ := hA
  go_wp2
  try go_end0
  rw [← HGP.out]
  exact ⟨rfl, h1, h2⟩
set_option maxRecDepth 100000 in
set_option maxHeartbeats 8000000 in
theorem opPrI (X F G n k K Q gb nb cb : Nat) (zs : List Int) (ks : List FkR) (f : FkR) (ops : Int) (fa : Option Addr) (m fc : Nat) (fs : List FtD) (down : Bool) (w0 w : World) (h : DO w0 w X F G n ks ops fa m fc down) (hfr : FR w fa m fs) (ho : 0 ≤ ops ∧ ops < 100000) (hfs : ∀ t ∈ fs, ftOk t = true) (hf : ks[k]? = some f) (hz : zs.length = nb) (hnb : nb ≤ cb ∧ nb ≤ 1048576) (h8 : fkN f < 8) (hr : ∀ p ∈ f.ps, ∀ W : World, Below w0.heap.size w0 W → Rd W p.a p.zs) (htp : totP (f.ps.map PgR.D) ≤ 1048576) (hK : Blk w K 176 #[.pointer (some ⟨G, k * 18, none⟩)]) (hQ : Blk w Q 30 #[.slice (some ⟨gb, 0, none⟩) nb cb]) (hKX : K ≠ X) (hQX : Q ≠ X) :
    Calls Tryz.prog 141 #[.pointer (some ⟨X, 0, none⟩), .pointer (some ⟨G, k * 18, none⟩), .func (.func 142) #[] #[.pointer (some ⟨K, 0, none⟩), .pointer (some ⟨Q, 0, none⟩)], .func (.func 144) #[] #[.pointer (some ⟨K, 0, none⟩), .pointer (some ⟨Q, 0, none⟩)]] w (EvA w0 w X F G n 0 ks (prAt ks k ⟨true, (some ⟨gb, 0, none⟩), cb, zs⟩) (badAt ks k) (fun kp => prAt ks k ⟨true, (some ⟨gb, 0, none⟩), cb, zs.take kp.toNat⟩) (faD ops fs) ops fa m fc down) := by
  have hcall := beginI X F G n ks ops fa m fc fs down w0 w h hfr ho
  have C1 : Hid (∀ W : World, FO w0 W F G n ks → Blk W K 176 #[.pointer (some ⟨G, k * 18, none⟩)] → Blk W Q 30 #[.slice (some ⟨gb, 0, none⟩) nb cb] → Calls Tryz.prog 142 #[.pointer (some ⟨K, 0, none⟩), .pointer (some ⟨Q, 0, none⟩)] W (FOA w0 W F G n (prAt ks k ⟨true, (some ⟨gb, 0, none⟩), cb, zs⟩))) := fun W h1 h2 h3 => prC1I F G n k K Q ks f gb nb cb zs w0 W hz h1 hf h8 (fun p hp => hr p hp W h1.bel) htp h2 h3
  have C2 : Hid (∀ (W : World) (kp : Int), 0 ≤ kp ∧ kp ≤ 400 → FO w0 W F G n ks → Blk W K 176 #[.pointer (some ⟨G, k * 18, none⟩)] → Blk W Q 30 #[.slice (some ⟨gb, 0, none⟩) nb cb] → Calls Tryz.prog 144 (#[.int .i64 kp] ++ #[.pointer (some ⟨K, 0, none⟩), .pointer (some ⟨Q, 0, none⟩)]) W (FOA w0 W F G n (prAt ks k ⟨true, (some ⟨gb, 0, none⟩), cb, zs.take kp.toNat⟩))) := fun W kp hkp h1 h2 h3 => prC2I F G n k K Q ks f gb nb cb zs kp w0 W hz h1 hf h8 (fun p hp => hr p hp W h1.bel) htp hnb hkp h2 h3
  have hmem : ∀ t, faD ops fs = some t → 0 ≤ t.kp ∧ t.kp ≤ 400 := fun t ht => by
    have h1 := hfs t (List.mem_of_find?_eq_some ht)
    unfold ftOk at h1
    simp at h1
    omega
  obtain ⟨o, hoo⟩ : ∃ o, faD ops fs = o := ⟨_, rfl⟩
  rw [hoo] at hcall hmem ⊢
  have HKX : Hid _ := And.intro hKX hQX
  have HK : Hid _ := And.intro hK hQ
  have HF : Hid _ := hf
  have HDO : Hid _ := h
  have hXw := h.x.lt
  have hGw := h.fo.g.lt (g := G) rfl
  have HXG : Hid (X ≠ G) := h.xg
  clear hoo hfr hf hz hnb h8 hr htp hK hQ h hfs ho
  cases o with
  | none =>
    simp only [Option.getD_none, Option.isSome_none, ftZ] at hcall
    generalize hGP : EvA w0 w X F G n 0 ks (prAt ks k ⟨true, (some ⟨gb, 0, none⟩), cb, zs⟩) (badAt ks k) (fun kp => prAt ks k ⟨true, (some ⟨gb, 0, none⟩), cb, zs.take kp.toNat⟩) none ops fa m fc down = P
    have HGP : Hid _ := hGP
    clear hGP hmem
    go_enter Tryz.func141, Tryz.ntmps141
    go_wp2_with fail
    refine hcall.mono ?_
    rintro e w1 ⟨rfl, do1, sv1⟩
    have b2 : Below w1.heap.size w1 (w1.alloc (.cells #[.int .i64 0, .int .i64 0, .int .i64 0] 54)) := (Below.refl _ _).alloc (Nat.le_refl _) _
    have do2 := do1.keep b2
    have k2 := (Blk.svs HK.out.1 sv1 (by simp; exact HKX.out.1)).keep b2
    have q2 := (Blk.svs HK.out.2 sv1 (by simp; exact HKX.out.2)).keep b2

    have hc2 := C1.out _ do2.fo k2 q2
    have sv2 : Sv [X, G] w (w1.alloc (.cells #[.int .i64 0, .int .i64 0, .int .i64 0] 54)) := (sv1.wider (by simp)).trans (Below.sv b2 _)
    clear hcall do1 sv1 b2
    go_wp2_with fail
    refine hc2.mono ?_
    rintro e w3 ⟨rfl, fo3, sv3⟩
    have HN : Hid _ := And.intro (do2.row fo3 sv3) (sv2.trans (sv3.wider (by simp)))
    clear do2 fo3 sv3 sv2 hc2
    go_wp2
    rw [← HGP.out]
    exact ⟨rfl, HN.out.1, HN.out.2⟩
  | some t =>
    obtain ⟨ft, fk, fp⟩ := t
    simp only [Option.getD_some, Option.isSome_some] at hcall
    have hkp := hmem _ rfl
    dsimp only at hkp
    by_cases h1 : fk = 1
    · subst h1
      generalize hGP : EvA w0 w X F G n 0 ks (prAt ks k ⟨true, (some ⟨gb, 0, none⟩), cb, zs⟩) (badAt ks k) (fun kp => prAt ks k ⟨true, (some ⟨gb, 0, none⟩), cb, zs.take kp.toNat⟩) (some ⟨ft, 1, fp⟩) ops fa m fc down = P
      have HGP : Hid _ := hGP
      clear hGP hmem
      go_enter Tryz.func141, Tryz.ntmps141
      go_wp2_with fail
      refine hcall.mono ?_
      rintro e w1 ⟨rfl, do1, sv1⟩
      have b2 : Below w1.heap.size w1 (w1.alloc (.cells #[.int .i64 ft, .int .i64 1, .int .i64 fp] 54)) := (Below.refl _ _).alloc (Nat.le_refl _) _
      have do2 := do1.keep b2
      have sv2 : Sv [X, G] w (w1.alloc (.cells #[.int .i64 ft, .int .i64 1, .int .i64 fp] 54)) := (sv1.wider (by simp)).trans (Below.sv b2 _)
      obtain ⟨v0, p0⟩ := do2.fo.is HF.out (j := 17) (by omega)
      have g0 := do2.fo.g.frozen (k * 18 + 17)
      have fn := do2.fo.one (j := 17) (x := .bool true) HF.out (by omega) (en_bad f true)
      have hbk : badAt ks k = ks.set k (f.badTo true) := by unfold badAt; rw [HF.out]
      rw [← hbk] at fn
      have HN : Hid _ := And.intro (do2.row fn (sv_one _ _ _ _)) (sv2.trans ((sv_one _ G (k * 18 + 17) (.bool true)).wider (by simp)))
      clear do1 sv1 b2 do2 sv2 fn hbk hcall
      go_wp2
      rw [← HGP.out]
      exact ⟨rfl, HN.out.1, HN.out.2⟩
    · have h1b : (fk == 1) = false := by simpa using h1
      generalize hGP : EvA w0 w X F G n 0 ks (prAt ks k ⟨true, (some ⟨gb, 0, none⟩), cb, zs⟩) (badAt ks k) (fun kp => prAt ks k ⟨true, (some ⟨gb, 0, none⟩), cb, zs.take kp.toNat⟩) (some ⟨ft, fk, fp⟩) ops fa m fc down = P
      have HGP : Hid _ := hGP
      have H1 : Hid _ := h1
      clear hGP hmem h1
      go_enter Tryz.func141, Tryz.ntmps141
      go_wp2_with fail
      refine hcall.mono ?_
      rintro e w1 ⟨rfl, do1, sv1⟩
      have b2 : Below w1.heap.size w1 (w1.alloc (.cells #[.int .i64 ft, .int .i64 fk, .int .i64 fp] 54)) := (Below.refl _ _).alloc (Nat.le_refl _) _
      have do2 := do1.keep b2
      have k2 := (Blk.svs HK.out.1 sv1 (by simp; exact HKX.out.1)).keep b2
      have q2 := (Blk.svs HK.out.2 sv1 (by simp; exact HKX.out.2)).keep b2

      have hc2 := C2.out _ fp hkp do2.fo k2 q2
      have sv2 : Sv [X, G] w (w1.alloc (.cells #[.int .i64 ft, .int .i64 fk, .int .i64 fp] 54)) := (sv1.wider (by simp)).trans (Below.sv b2 _)
      clear hcall do1 sv1 b2
      go_wp2_with fail
      refine hc2.mono ?_
      rintro e w3 ⟨rfl, fo3, sv3⟩
      have HN : Hid _ := And.intro (do2.row fo3 sv3) (sv2.trans (sv3.wider (by simp)))
      clear do2 fo3 sv3 sv2 hc2
      go_wp2
      rw [← HGP.out]
      have h1 := H1.out
      have e1 : evEnd 0 (some ⟨ft, fk, fp⟩) = .panicked [{ v := .iface 194 (.int .i64 10), recovered := false }] := by
        unfold evEnd opEnd
        rw [if_pos rfl]
        dsimp only
        rw [if_neg h1]
      have e2 : opK (prAt ks k ⟨true, (some ⟨gb, 0, none⟩), cb, zs⟩) (badAt ks k) (fun kp => prAt ks k ⟨true, (some ⟨gb, 0, none⟩), cb, zs.take kp.toNat⟩) (some ⟨ft, fk, fp⟩) = prAt ks k ⟨true, (some ⟨gb, 0, none⟩), cb, zs.take fp.toNat⟩ := by
        unfold opK
        dsimp only
        rw [if_neg h1]
      refine ⟨rfl, e1.symm, ?_, HN.out.2⟩
      rw [if_pos rfl, if_pos rfl, e2]
      exact HN.out.1
end

section
open Go.RowKit
set_option maxRecDepth 100000 in
set_option maxHeartbeats 8000000 in
theorem dvPrI (X F G n gb nb cb : Nat) (zs : List Int) (ks : List FkR) (x : Int) (ops : Int) (fa : Option Addr) (m fc : Nat) (fs : List FtD) (down : Bool) (w0 w : World) (hn : n ≤ 1048576) (hz : zs.length = nb) (hnb : nb ≤ cb ∧ nb ≤ 1048576) (h : DO w0 w X F G n ks ops fa m fc down) (hfr : FR w fa m fs) (ho : 0 ≤ ops ∧ ops < 100000) (hfs : ∀ t ∈ fs, ftOk t = true) (hr : ∀ f ∈ ks, ∀ p ∈ f.ps, ∀ W : World, Below w0.heap.size w0 W → Rd W p.a p.zs) (ht : totB (ks.map FkR.D) ≤ 1048576) :
    Calls Tryz.prog 117 #[.pointer (some ⟨X, 0, none⟩), .int .i64 x, .slice (some ⟨gb, 0, none⟩) nb cb] w (EvA w0 w X F G n (prC ks x nb) ks (prAt ks x.toNat ⟨true, (some ⟨gb, 0, none⟩), cb, zs⟩) (badAt ks x.toNat) (fun kp => prAt ks x.toNat ⟨true, (some ⟨gb, 0, none⟩), cb, zs.take kp.toNat⟩) (faD ops fs) ops fa m fc down) := by
  have B0 : Below w.heap.size w (w.alloc (.cells #[.slice (some ⟨gb, 0, none⟩) nb cb] 30)) := (Below.refl _ w).alloc (Nat.le_refl _) _
  have zQ := Blk.new w 30 #[.slice (some ⟨gb, 0, none⟩) nb cb]
  obtain ⟨Q, hQ⟩ : ∃ Q, w.heap.size = Q := ⟨_, rfl⟩
  have hXQ : X < Q := by rw [← hQ]; exact h.x.lt
  rw [hQ] at zQ
  have hmf : ∀ (fn : Fn) (first cap : Array Value) (w : World), (Instr.makeFunc fn first cap).run Tryz.prog w = .ok (.func fn first cap) w := fun _ _ _ _ => rfl
  have hbt := fun (W : World) (hW : Below w.heap.size w W) => btpI F G n ks x (some ⟨gb, 0, none⟩) nb cb w0 W hn hnb.2 (h.keep hW).fo (fun f hf p hp => hr f hf p hp W (h.keep hW).fo.bel) ht
  obtain ⟨po, hpo⟩ : ∃ po, (if prC ks x nb = 0 then Value.pointer (some ⟨G, x.toNat * 18, none⟩) else .pointer none) = .pointer po := by
    split
    · exact ⟨_, rfl⟩
    · exact ⟨_, rfl⟩
  obtain ⟨ev, hev⟩ : ∃ ev, errV (prC ks x nb) = ev := ⟨_, rfl⟩
  rw [hpo, hev] at hbt
  have HPO : Hid _ := And.intro hpo hev
  generalize hGP : EvA w0 w X F G n (prC ks x nb) ks (prAt ks x.toNat ⟨true, (some ⟨gb, 0, none⟩), cb, zs⟩) (badAt ks x.toNat) (fun kp => prAt ks x.toNat ⟨true, (some ⟨gb, 0, none⟩), cb, zs.take kp.toNat⟩) (faD ops fs) ops fa m fc down = P
  have HGP : Hid _ := hGP
  clear hpo hev hGP
  go_enter Tryz.func117, Tryz.ntmps117
  go_upto_region 1 with fail
  obtain ⟨W0, hW0⟩ : ∃ W, w.alloc (.cells #[.slice (some ⟨gb, 0, none⟩) nb cb] 30) = W := ⟨_, rfl⟩
  rw [hW0] at B0 zQ ⊢
  try rw [hQ]
  clear hW0
  have HD : Hid (Below w.heap.size w W0.drew) := B0.drew
  have HDO : Hid (∀ W : World, Below w.heap.size w W → DO w0 W X F G n ks ops fa m fc down) := fun W hW => h.keep hW
  have HZQ : Hid (Blk W0.drew Q 30 #[.slice (some ⟨gb, 0, none⟩) nb cb]) := zQ.keep (Below.refl _ _).drew
  have hall : Hid (∀ W : World, Below W0.drew.heap.size W0.drew W → W.cell? ⟨X, 0, none⟩ = some (.pointer (some ⟨F, 0, none⟩)) ∧ W.cell? ⟨Q, 0, none⟩ = some (.slice (some ⟨gb, 0, none⟩) nb cb)) := fun W hW => ⟨(HDO.out W (HD.out.trans (hW.mono HD.out.size))).x.cell 0, (Blk.keep HZQ.out hW).cell 0⟩
  have hc0 := hbt W0.drew HD.out
  have bA : Below W0.drew.heap.size W0.drew (W0.drew.alloc (.cells #[.pointer none] 176)) := (Below.refl _ _).alloc (Nat.le_refl _) _
  have hc1 : Calls Tryz.prog 140 #[.pointer (some ⟨F, 0, none⟩), .int .i64 x, .slice (some ⟨gb, 0, none⟩) nb cb] (W0.alloc (.cells #[.pointer none] 176)).drew _ := hbt _ (HD.out.trans (bA.mono HD.out.size))
  have HBA : Hid _ := bA
  have HFR : Hid (∀ W : World, Below w.heap.size w W → FR W fa m fs) := fun W hW => hfr.keep hW
  have HR : Hid _ := hr
  have HQQ : Hid (w.heap.size = Q) := hQ
  obtain ⟨s1, s2⟩ := hall.out W0.drew (Below.refl _ _)
  clear h hfr hr B0 zQ hQ hbt bA
  refine wp_region_noPanic ?_
  refine wp_region_last (fun W : World => W.cell? ⟨X, 0, none⟩ = some (.pointer (some ⟨F, 0, none⟩)) ∧ W.cell? ⟨Q, 0, none⟩ = some (.slice (some ⟨gb, 0, none⟩) nb cb)) 12 (by kernel_rfl) (by kernel_rfl) (by go_keep) 12 (by kernel_rfl) (fun hS => ?_)
  refine wpAnyH_take (i := 0) (v := ?gv1) rfl (by kernel_rfl) (by kernel_rfl) (by kernel_rfl) (fun _ _ _ h => h) (Or.inl ⟨by kernel_rfl, ?gy1⟩) (by assumption) ?gr1
  case gy1 => (intro w' hSw; (try dsimp only at hSw); go_simp; (try with_reducible rfl))
  try simp only [Act.put, List.setIfInBounds_toArray, List.set_cons_zero, List.set_cons_succ, List.getElem_toArray, List.getElem_cons_zero]
  refine wpAnyH_take (i := 1) (v := ?gv2) rfl (by kernel_rfl) (by kernel_rfl) (by kernel_rfl) (fun _ _ _ h => h) (Or.inl ⟨by kernel_rfl, ?gy2⟩) (by assumption) ?gr2
  case gy2 => (intro w' hSw; (try dsimp only at hSw); go_simp; (try with_reducible rfl))
  try simp only [Act.put, List.setIfInBounds_toArray, List.set_cons_zero, List.set_cons_succ, List.getElem_toArray, List.getElem_cons_succ, List.getElem_cons_zero]
  refine wpAnyH_take (i := 2) (v := ?gv3) rfl (by kernel_rfl) (by kernel_rfl) (by kernel_rfl) (fun _ _ _ h => h) (Or.inl ⟨by kernel_rfl, ?gy3⟩) (by assumption) ?gr3
  case gy3 => (intro w' hSw; (try dsimp only at hSw); go_simp; (try with_reducible rfl))
  try simp only [Act.put, List.setIfInBounds_toArray, List.set_cons_zero, List.set_cons_succ, List.getElem_toArray, List.getElem_cons_succ, List.getElem_cons_zero]
  refine wpAnyH_take (i := 3) (v := ?gv4) rfl (by kernel_rfl) (by kernel_rfl) (by kernel_rfl) (fun _ _ _ h => h) (Or.inl ⟨by kernel_rfl, ?gy4⟩) (by assumption) ?gr4
  case gy4 => (intro w' hSw; (try dsimp only at hSw); go_simp; (try with_reducible rfl))
  try simp only [Act.put, List.setIfInBounds_toArray, List.set_cons_zero, List.set_cons_succ, List.getElem_toArray, List.getElem_cons_succ, List.getElem_cons_zero]
  refine wpAnyH_take (i := 4) (v := ?gv5) rfl (by kernel_rfl) (by kernel_rfl) (by kernel_rfl) (fun _ _ _ h => h) (Or.inl ⟨by kernel_rfl, ?gy5⟩) (by assumption) ?gr5
  case gy5 => (intro w' hSw; (try dsimp only at hSw); go_simp; (try with_reducible rfl))
  try simp only [Act.put, List.setIfInBounds_toArray, List.set_cons_zero, List.set_cons_succ, List.getElem_toArray, List.getElem_cons_succ, List.getElem_cons_zero]
  refine wpAnyH_take (i := 5) (v := ?gv6) rfl (by kernel_rfl) (by kernel_rfl) (by kernel_rfl) (fun _ _ _ h => h) (Or.inl ⟨by kernel_rfl, ?gy6⟩) (by assumption) ?gr6
  case gy6 => (intro w' hSw; (try dsimp only at hSw); go_simp; (try with_reducible rfl))
  try simp only [Act.put, List.setIfInBounds_toArray, List.set_cons_zero, List.set_cons_succ, List.getElem_toArray, List.getElem_cons_succ, List.getElem_cons_zero]
  refine wpAnyH_ready (rs := [6, 10]) (by kernel_rfl) (by simp) ?_
  refine AllReadyH.cons rfl (fun K hK => ?_) (AllReadyH.cons rfl (fun K hK => ?_) AllReadyH.nil)
  go_simp
  (with_reducible refine hc0.mono ?_)
  rintro e W1 ⟨rfl, b1⟩
  have HB1 : Hid (Below W0.drew.heap.size W0.drew W1) := b1
  clear b1
  clear hS
  try dsimp only
  refine Shut.out hK _ _ (hall.out W1 HB1.out) (fun hS => ?_)
  try simp only [Act.put, List.setIfInBounds_toArray, List.set_cons_zero, List.set_cons_succ, List.getElem_toArray, List.getElem_cons_succ, List.getElem_cons_zero]
  refine wpAnyH_take (i := 7) (v := ?gv7) rfl (by kernel_rfl) (by kernel_rfl) (by kernel_rfl) (fun _ _ _ h => h) (Or.inl ⟨by kernel_rfl, ?gy7⟩) (by assumption) ?gr7
  case gy7 => (intro w' hSw; (try dsimp only at hSw); go_simp; (try with_reducible rfl))
  try simp only [Act.put, List.setIfInBounds_toArray, List.set_cons_zero, List.set_cons_succ, List.getElem_toArray, List.getElem_cons_succ, List.getElem_cons_zero]
  refine wpAnyH_take (i := 8) (v := ?gv8) rfl (by kernel_rfl) (by kernel_rfl) (by kernel_rfl) (fun _ _ _ h => h) (Or.inl ⟨by kernel_rfl, ?gy8⟩) (by assumption) ?gr8
  case gy8 => (intro w' hSw; (try dsimp only at hSw); go_simp; (try with_reducible rfl))
  try simp only [Act.put, List.setIfInBounds_toArray, List.set_cons_zero, List.set_cons_succ, List.getElem_toArray, List.getElem_cons_succ, List.getElem_cons_zero]
  refine wpAnyH_take (i := 9) (v := ?gv9) rfl (by kernel_rfl) (by kernel_rfl) (by kernel_rfl) (fun _ _ _ h => h) (Or.inl ⟨by kernel_rfl, ?gy9⟩) (by assumption) ?gr9
  case gy9 => (intro w' hSw; (try dsimp only at hSw); go_simp; (try with_reducible rfl))
  try simp only [Act.put, List.setIfInBounds_toArray, List.set_cons_zero, List.set_cons_succ, List.getElem_toArray, List.getElem_cons_succ, List.getElem_cons_zero]
  refine wpAnyH_ready (rs := [10]) (by kernel_rfl) (by simp) ?_
  refine AllReadyH.cons rfl (fun K hK => ?_) AllReadyH.nil
  go_simp
  have b2 : Below W1.heap.size W1 (W1.alloc (.cells #[.pointer none] 176)) := (Below.refl _ _).alloc (Nat.le_refl _) _
  have HB2 : Hid (Below W0.drew.heap.size W0.drew (W1.alloc (.cells #[.pointer none] 176))) := HB1.out.trans (b2.mono HB1.out.size)
  have zT := Blk.new W1 176 #[.pointer none]
  obtain ⟨Kb, hT⟩ : ∃ T, W1.heap.size = T := ⟨_, rfl⟩
  rw [hT] at zT
  have hTn : W0.drew.heap.size ≤ Kb := (by rw [← hT]; exact HB1.out.size)
  obtain ⟨W2, hW2⟩ : ∃ W, W1.alloc (.cells #[.pointer none] 176) = W := ⟨_, rfl⟩
  rw [hW2] at HB2 zT ⊢
  clear hW2 b2
  have HZT : Hid (Blk W2 Kb 176 #[.pointer none] ∧ W0.drew.heap.size ≤ Kb) := ⟨zT, hTn⟩
  clear zT hTn
  try rw [hT]
  clear hS
  try dsimp only
  refine Shut.out hK _ _ (hall.out _ HB2.out) (fun hS => ?_)
  try simp only [Act.put, List.setIfInBounds_toArray, List.set_cons_zero, List.set_cons_succ, List.getElem_toArray, List.getElem_cons_succ, List.getElem_cons_zero]
  refine wpAnyH_ready (rs := [11]) (by kernel_rfl) (by simp) ?_
  refine AllReadyH.cons rfl (fun K hK => ?_) AllReadyH.nil
  go_simp
  have zT := HZT.out.1
  have t0 := zT.cell 0
  have u0 := zT.frozen 0
  simp at t0
  clear zT
  go_simp
  clear hS
  try dsimp only
  refine Shut.out hK _ _ (hall.out (W2.setCell ⟨Kb, 0, none⟩ (.pointer po)) (HB2.out.setCell (p := ⟨Kb, 0, none⟩) HZT.out.2 _)) (fun hS => ?_)
  try simp only [Act.put, List.setIfInBounds_toArray, List.set_cons_zero, List.set_cons_succ, List.getElem_toArray, List.getElem_cons_succ, List.getElem_cons_zero]
  refine wpAnyH_done (by kernel_rfl) ?_ _
  refine wpOp_last rfl (fun K hK => ?_)
  clear hS
  go_simp
  refine Shut.out hK _ _ (NoPanic.normal ?_)
  rotate_left 1
  go_simp
  clear hS
  try dsimp only
  refine Shut.out hK _ _ (hall.out _ HBA.out) (fun hS => ?_)
  try simp only [Act.put, List.setIfInBounds_toArray, List.set_cons_zero, List.set_cons_succ, List.getElem_toArray, List.getElem_cons_succ, List.getElem_cons_zero]
  refine wpAnyH_ready (rs := [6]) (by kernel_rfl) (by simp) ?_
  refine AllReadyH.cons rfl (fun K hK => ?_) AllReadyH.nil
  go_simp
  (with_reducible refine hc1.mono ?_)
  rintro e W2 ⟨rfl, b1⟩
  have HB2 : Hid (Below W0.drew.heap.size W0.drew W2) := HBA.out.trans (b1.mono HBA.out.size)
  have zT := (Blk.new W0.drew 176 #[.pointer none]).keep b1
  obtain ⟨Kb, hT⟩ : ∃ T, W0.heap.size = T := ⟨_, rfl⟩
  have hT2 : W0.drew.heap.size = Kb := hT
  rw [hT2] at zT
  have HZT : Hid (Blk W2 Kb 176 #[.pointer none] ∧ W0.drew.heap.size ≤ Kb) := ⟨zT, by rw [hT2]; exact Nat.le_refl _⟩
  clear b1 zT hT2
  try rw [hT]
  clear hS
  try dsimp only
  refine Shut.out hK _ _ (hall.out W2 HB2.out) (fun hS => ?_)
  try simp only [Act.put, List.setIfInBounds_toArray, List.set_cons_zero, List.set_cons_succ, List.getElem_toArray, List.getElem_cons_succ, List.getElem_cons_zero]
  refine wpAnyH_take (i := 7) (v := ?gv10) rfl (by kernel_rfl) (by kernel_rfl) (by kernel_rfl) (fun _ _ _ h => h) (Or.inl ⟨by kernel_rfl, ?gy10⟩) (by assumption) ?gr10
  case gy10 => (intro w' hSw; (try dsimp only at hSw); go_simp; (try with_reducible rfl))
  try simp only [Act.put, List.setIfInBounds_toArray, List.set_cons_zero, List.set_cons_succ, List.getElem_toArray, List.getElem_cons_succ, List.getElem_cons_zero]
  refine wpAnyH_take (i := 8) (v := ?gv11) rfl (by kernel_rfl) (by kernel_rfl) (by kernel_rfl) (fun _ _ _ h => h) (Or.inl ⟨by kernel_rfl, ?gy11⟩) (by assumption) ?gr11
  case gy11 => (intro w' hSw; (try dsimp only at hSw); go_simp; (try with_reducible rfl))
  try simp only [Act.put, List.setIfInBounds_toArray, List.set_cons_zero, List.set_cons_succ, List.getElem_toArray, List.getElem_cons_succ, List.getElem_cons_zero]
  refine wpAnyH_take (i := 9) (v := ?gv12) rfl (by kernel_rfl) (by kernel_rfl) (by kernel_rfl) (fun _ _ _ h => h) (Or.inl ⟨by kernel_rfl, ?gy12⟩) (by assumption) ?gr12
  case gy12 => (intro w' hSw; (try dsimp only at hSw); go_simp; (try with_reducible rfl))
  try simp only [Act.put, List.setIfInBounds_toArray, List.set_cons_zero, List.set_cons_succ, List.getElem_toArray, List.getElem_cons_succ, List.getElem_cons_zero]
  refine wpAnyH_ready (rs := [11]) (by kernel_rfl) (by simp) ?_
  refine AllReadyH.cons rfl (fun K hK => ?_) AllReadyH.nil
  go_simp
  have zT := HZT.out.1
  have t0 := zT.cell 0
  have u0 := zT.frozen 0
  simp at t0
  clear zT
  go_simp
  clear hS
  try dsimp only
  refine Shut.out hK _ _ (hall.out (W2.setCell ⟨Kb, 0, none⟩ (.pointer po)) (HB2.out.setCell (p := ⟨Kb, 0, none⟩) HZT.out.2 _)) (fun hS => ?_)
  try simp only [Act.put, List.setIfInBounds_toArray, List.set_cons_zero, List.set_cons_succ, List.getElem_toArray, List.getElem_cons_succ, List.getElem_cons_zero]
  refine wpAnyH_done (by kernel_rfl) ?_ _
  refine wpOp_last rfl (fun K hK => ?_)
  clear hS
  go_simp
  refine Shut.out hK _ _ (NoPanic.normal ?_)
  rotate_left 1
  all_goals (
    clear t0 u0 s1 s2 hc0 hc1
    have hb3 : Below W0.drew.heap.size W0.drew (W2.setCell ⟨Kb, 0, none⟩ (.pointer po)) := HB2.out.setCell (p := ⟨Kb, 0, none⟩) HZT.out.2 _
    have zK := HZT.out.1.set 0 (.pointer po)
    have zQ := Blk.keep HZQ.out hb3
    have hKX : Kb ≠ X := by have := HZT.out.2; have := HZQ.out.lt; omega
    simp at zK
    obtain ⟨W3, hW3⟩ : ∃ W, W2.setCell ⟨Kb, 0, none⟩ (.pointer po) = W := ⟨_, rfl⟩
    rw [hW3] at hb3 zK zQ ⊢
    clear hW3
    have hb : Below w.heap.size w W3 := HD.out.trans (hb3.mono HD.out.size)
    obtain ⟨hpo, hev⟩ := HPO.out
    by_cases hc : prC ks x nb = 0
    · obtain ⟨k, f, rfl, hf, h8⟩ := pr_zero hc
      rw [if_pos hc, Int.toNat_natCast] at hpo
      rw [hc, errV_zero] at hev
      simp only [Value.pointer.injEq] at hpo
      subst hpo hev
      have htp : totP (f.ps.map PgR.D) ≤ 1048576 := by
        have := totB_mem (b := f.D) (bs := ks.map FkR.D) (List.mem_map_of_mem (List.mem_of_getElem? hf))
        have h2 : f.D.ps = f.ps.map PgR.D := rfl
        rw [h2] at this
        omega
      have hcall2 := opPrI X F G n k Kb Q gb nb cb zs ks f ops fa m fc fs down w0 W3 (HDO.out _ hb) (HFR.out _ hb) ho hfs hf hz hnb h8 (HR.out f (List.mem_of_getElem? hf)) htp zK zQ hKX (by omega)
      have HB3 : Hid _ := hb
      have HC : Hid (prC ks (k : Int) nb = 0) := hc
      have y0 := zK.cell 0
      simp at y0
      clear hc hf h8 htp hb hb3 zK zQ HPO HDO HFR HR HZT HB2 hall HZQ
      go_wp2_with fail
      refine hcall2.mono ?_
      rintro e w2 ⟨he, d2, sv2⟩
      have HA2 : Hid (P e w2) := by
        show P e w2
        rw [← HGP.out, HC.out, Int.toNat_natCast]
        exact ⟨he, d2, (Below.sv HB3.out _).trans sv2⟩
      clear d2 sv2 hcall2 HGP HC
      rcases evEnd_cases 0 (faD ops fs) with ⟨v, e1, (rfl | ⟨c, rfl⟩)⟩ | e1
      · rw [e1] at he
        subst he
        go_wp2
        exact HA2.out
      · rw [e1] at he
        subst he
        go_wp2
        exact HA2.out
      · rw [e1] at he
        subst he
        go_wp2
        first | exact HA2.out | exact ⟨rfl, HA2.out⟩
    · rw [errV_some hc] at hev
      have HN : Hid _ := And.intro (HDO.out _ hb) (Below.sv hb [X, G])
      have HC : Hid _ := And.intro hc hev
      obtain ⟨c, hcc⟩ : ∃ c, prC ks x nb = c := ⟨_, rfl⟩
      rw [hcc] at hev
      subst hev
      clear hb hb3 zK zQ HPO HDO HFR HR HZT HB2 hall HZQ hcc hc
      go_wp2
      rw [← HGP.out]
      obtain ⟨h1, h2⟩ := HC.out
      refine ⟨?_, ?_, HN.out.2⟩
      · unfold evEnd
        rw [if_neg h1, errV_some h1, h2]
        rfl
      · rw [if_neg h1, if_neg h1]
        exact HN.out.1)
set_option maxRecDepth 100000 in
set_option maxHeartbeats 4000000 in
theorem ev_throughP {X F G n B Q gb nb cb : Nat} {ks kA kB : List FkR} {kC : Int → List FkR} {x cd : Int} {o : Option FtD} {ops : Int} {fa : Option Addr} {m fc : Nat} {down : Bool} {w0 w : World} (x0 : w.cell? ⟨B, 0, none⟩ = some (.int .i64 x)) (x1 : w.cell? ⟨Q, 0, none⟩ = some (.slice (some ⟨gb, 0, none⟩) nb cb)) (hcall' : Calls Tryz.prog 117 #[.pointer (some ⟨X, 0, none⟩), .int .i64 x, .slice (some ⟨gb, 0, none⟩) nb cb] w (EvA w0 w X F G n cd ks kA kB kC o ops fa m fc down)) :
    Calls Tryz.prog 116 #[.pointer (some ⟨X, 0, none⟩), .pointer (some ⟨B, 0, none⟩), .pointer (some ⟨Q, 0, none⟩)] w (EvA w0 w X F G n cd ks kA kB kC o ops fa m fc down) := by
  generalize hGP : EvA w0 w X F G n cd ks kA kB kC o ops fa m fc down = P at hcall' ⊢
  have HGP : Hid _ := hGP
  clear hGP
  go_enter Tryz.func116, Tryz.ntmps116
  go_wp2_with fail
  refine hcall'.mono ?_
  intro e w1 hA
  have HA : Hid _ := hA
  rw [← HGP.out] at hA
  obtain ⟨he, _, _⟩ := hA
  clear HGP hcall'
  rcases evEnd_cases cd o with ⟨v, e1, (rfl | ⟨c, rfl⟩)⟩ | e1
  · rw [e1] at he
    subst he
    go_wp2
    exact HA.out
  · rw [e1] at he
    subst he
    go_wp2
    exact HA.out
  · rw [e1] at he
    subst he
    go_wp2
    first | exact HA.out | exact ⟨rfl, HA.out⟩
set_option maxHeartbeats 1600000 in
theorem dvPr1I (X F G n B Q gb nb cb : Nat) (zs : List Int) (ks : List FkR) (x : Int) (ops : Int) (fa : Option Addr) (m fc : Nat) (fs : List FtD) (down : Bool) (w0 w : World) (hn : n ≤ 1048576) (hz : zs.length = nb) (hnb : nb ≤ cb ∧ nb ≤ 1048576) (h : DO w0 w X F G n ks ops fa m fc down) (hfr : FR w fa m fs) (ho : 0 ≤ ops ∧ ops < 100000) (hfs : ∀ t ∈ fs, ftOk t = true) (hr : ∀ f ∈ ks, ∀ p ∈ f.ps, ∀ W : World, Below w0.heap.size w0 W → Rd W p.a p.zs) (ht : totB (ks.map FkR.D) ≤ 1048576) (hB : Blk w B 3 #[.int .i64 x]) (hQ : Blk w Q 30 #[.slice (some ⟨gb, 0, none⟩) nb cb]) :
    Calls Tryz.prog 116 #[.pointer (some ⟨X, 0, none⟩), .pointer (some ⟨B, 0, none⟩), .pointer (some ⟨Q, 0, none⟩)] w (EvA w0 w X F G n (prC ks x nb) ks (prAt ks x.toNat ⟨true, (some ⟨gb, 0, none⟩), cb, zs⟩) (badAt ks x.toNat) (fun kp => prAt ks x.toNat ⟨true, (some ⟨gb, 0, none⟩), cb, zs.take kp.toNat⟩) (faD ops fs) ops fa m fc down) := by
  have hcall := dvPrI X F G n gb nb cb zs ks x ops fa m fc fs down w0 w hn hz hnb h hfr ho hfs hr ht
  have x0 := hB.cell 0
  have x1 := hQ.cell 0
  simp at x0 x1
  exact ev_throughP x0 x1 hcall
end
end Go.Proofs.YtnhbhpbmnlojlaaGreatDoor
